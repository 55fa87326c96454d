
/- A relation that a function puts together, list by list, beside lists of numbers of its own.
   Conditions: stated at each theorem. -/
import Derived.Test.YtaimealknkhfbaaDoorRB5
import Derived.Test.YtaimealknkhfbaaDoorRB4
import Derived.Test.YtaimealknkhfbaaDoorRows
import Derived.WalkKit
import Derived.ProofKit
import Derived.Lib.Hide
import Derived.Laws.IdiomStrings
namespace Go.Proofs.YtaimealknkhfbaaDoor.Bld
set_option linter.unusedVariables false
set_option linter.unusedSimpArgs false
open Go.RowKit Mem Copy Rel Heap

theorem Own.perm {w : World} {B : Nat} {t : TypeId} {l m : List (Value × List Value)} (h : Own w B t l) (hp : l.Perm m) : Own w B t m :=
  ⟨fun p hm => h.lst p (hp.mem_iff.2 hm), (hp.pairwise_iff (fun {a b} => own_symm)).1 h.apart⟩

theorem cells_get {w : World} {b : Nat} {c : Array Value} {t : TypeId} {r : Nat × Nat} (h : w.heap[b]? = some (.cells c t r)) (i : Nat) : w.cell? ⟨b, i, none⟩ = c[i]? := by simp [World.cell?, h]
theorem cells_free {w : World} {b : Nat} {c : Array Value} {t : TypeId} (h : w.heap[b]? = some (.cells c t (0, 0))) (i : Nat) : w.frozen? ⟨b, i, none⟩ = false := by simp [World.frozen?, h]
theorem cells_set {w : World} {b : Nat} {c : Array Value} {t : TypeId} {r : Nat × Nat} (h : w.heap[b]? = some (.cells c t r)) (i : Nat) (u : Value) : (w.setCell ⟨b, i, none⟩ u).heap[b]? = some (.cells (c.setIfInBounds i u) t r) := by
  have hlt := lt_of_block h
  have h' : w.heap[b] = .cells c t r := by simpa [Array.getElem?_eq_getElem hlt] using h
  show (w.heap.modify b _)[b]? = _
  rw [Array.getElem?_eq_getElem (by simpa using hlt), Array.getElem_modify_self, h']
  rfl

/-- The struct in block ob holds the lists va and vn; items are the rows that vn has; ints are lists beside. -/
structure Bld (w : World) (B ob : Nat) (tapes start : Int) (va vn : Value) (ints items : List (Value × List Value)) (accs : List Value) : Prop where
  own : Own w B 2 (ints ++ items)
  acc : Lst w B 4 va accs
  nxt : Lst w B 52 vn (items.map Prod.fst)
  at_ : w.heap[ob]? = some (.cells #[.int .i64 tapes, .int .i64 start, va, vn] 27 (0, 0))
  obB : B ≤ ob

variable {w w' : World} {B ob : Nat} {tapes start : Int} {va vn : Value} {ints items : List (Value × List Value)} {accs : List Value}

theorem Bld.below (h : Bld w B ob tapes start va vn ints items accs) (hb : Below w.heap.size w w') : Bld w' B ob tapes start va vn ints items accs :=
  ⟨h.own.below hb, h.acc.below hb, h.nxt.below hb, by rw [hb.block ob (lt_of_block h.at_)]; exact h.at_, h.obB⟩
theorem Bld.drew (h : Bld w B ob tapes start va vn ints items accs) : Bld w.drew B ob tapes start va vn ints items accs := ⟨h.own.drew, h.acc, h.nxt, h.at_, h.obB⟩
theorem Bld.drewN (h : Bld w B ob tapes start va vn ints items accs) (m : Nat) : Bld (w.drewN m) B ob tapes start va vn ints items accs := ⟨h.own.drewN m, h.acc, h.nxt, h.at_, h.obB⟩
theorem Bld.alloc (h : Bld w B ob tapes start va vn ints items accs) (o : Obj) : Bld (w.alloc o) B ob tapes start va vn ints items accs := h.below ((Below.refl _ _).alloc (Nat.le_refl _) _)
theorem Bld.lt (h : Bld w B ob tapes start va vn ints items accs) : ob < w.heap.size := lt_of_block h.at_
theorem Bld.c2 (h : Bld w B ob tapes start va vn ints items accs) : w.cell? ⟨ob, 2, none⟩ = some va := by rw [cells_get h.at_]; rfl
theorem Bld.c3 (h : Bld w B ob tapes start va vn ints items accs) : w.cell? ⟨ob, 3, none⟩ = some vn := by rw [cells_get h.at_]; rfl

theorem Bld.pushInt (l1 l2 : List (Value × List Value)) {v v' : Value} {xs : List Value} {u : Value} (h : Bld w B ob tapes start va vn (l1 ++ (v, xs) :: l2) items accs) (hp : Pushed w w' B 2 v v' xs u) :
    Bld w' B ob tapes start va vn (l1 ++ (v', xs ++ [u]) :: l2) items accs := by
  have ho : Own w B 2 (l1 ++ (v, xs) :: (l2 ++ items)) := by have := h.own; rw [List.append_assoc] at this; exact this
  have hv := Own.get l1 (l2 ++ items) ho
  refine ⟨?_, h.acc.grown hp.grow fun k hk => hv.apart h.acc (by decide) k hk, h.nxt.grown hp.grow fun k hk => hv.apart h.nxt (by decide) k hk, ?_, h.obB⟩
  · rw [List.append_assoc]; exact Own.push l1 (l2 ++ items) ho hp
  · rw [hp.grow.block ob h.lt fun e => block_apart hv h.at_ (by decide) e.symm]; exact h.at_
theorem Bld.setInt (l1 l2 : List (Value × List Value)) {g n cap : Nat} {xs : List Value} (h : Bld w B ob tapes start va vn (l1 ++ (.slice (some ⟨g, 0, none⟩) n cap, xs) :: l2) items accs) {i : Nat} (hi : i < xs.length) (u : Value) :
    Bld (w.setCell ⟨g, i, none⟩ u) B ob tapes start va vn (l1 ++ (.slice (some ⟨g, 0, none⟩) n cap, xs.set i u) :: l2) items accs := by
  have ho : Own w B 2 (l1 ++ (.slice (some ⟨g, 0, none⟩) n cap, xs) :: (l2 ++ items)) := by have := h.own; rw [List.append_assoc] at this; exact this
  have hv := Own.get l1 (l2 ++ items) ho
  refine ⟨?_, h.acc.setOther (hv.apart h.acc (by decide) g rfl) u, h.nxt.setOther (hv.apart h.nxt (by decide) g rfl) u, ?_, h.obB⟩
  · rw [List.append_assoc]; exact Own.set l1 (l2 ++ items) ho hi u
  · rw [Below.heap_setCell _ _ _ _ (fun e => block_apart hv h.at_ (by decide) (by show some g = some ob; rw [e]))]; exact h.at_
/-- A list that is new. -/
theorem Bld.addInt (h : Bld w B ob tapes start va vn ints items accs) (hb : Below w.heap.size w w') {v : Value} {xs : List Value} (hl : Lst w' B 2 v xs) (hn : ∀ k, v.ownBlock = some k → w.heap.size ≤ k) :
    Bld w' B ob tapes start va vn ((v, xs) :: ints) items accs :=
  ⟨h.own.addNew hb hl hn, h.acc.below hb, h.nxt.below hb, by rw [hb.block ob h.lt]; exact h.at_, h.obB⟩
theorem Bld.perm {ints' : List (Value × List Value)} (h : Bld w B ob tapes start va vn ints items accs) (hp : ints.Perm ints') : Bld w B ob tapes start va vn ints' items accs :=
  ⟨Own.perm h.own (hp.append_right items), h.acc, h.nxt, h.at_, h.obB⟩

/-- out.Accept = append(out.Accept, u). -/
theorem Bld.pushAcc {va' : Value} {u : Value} (h : Bld w B ob tapes start va vn ints items accs) (hp : Pushed w w' B 4 va va' accs u) :
    Bld (w'.setCell ⟨ob, 2, none⟩ va') B ob tapes start va' vn ints items (accs ++ [u]) := by
  have hob : w'.heap[ob]? = some (.cells #[.int .i64 tapes, .int .i64 start, va, vn] 27 (0, 0)) := by
    rw [hp.grow.block ob h.lt fun e => block_apart h.acc h.at_ (by decide) e.symm]; exact h.at_
  have ho : Own w' B 2 (ints ++ items) := h.own.grown hp.grow fun k hk p hm => h.acc.apart (h.own.lst p hm) (by decide) k hk
  have hn : Lst w' B 52 vn (items.map Prod.fst) := h.nxt.grown hp.grow fun k hk => h.acc.apart h.nxt (by decide) k hk
  exact ⟨ho.setOther (a := ⟨ob, 2, none⟩) hob (by decide) _, hp.lst.setOther (block_apart hp.lst hob (by decide)) _, hn.setOther (block_apart hn hob (by decide)) _, cells_set hob 2 va', h.obB⟩
theorem Bld.obAcc {va' : Value} {u : Value} (h : Bld w B ob tapes start va vn ints items accs) (hp : Pushed w w' B 4 va va' accs u) : w'.heap[ob]? = some (.cells #[.int .i64 tapes, .int .i64 start, va, vn] 27 (0, 0)) := by
  rw [hp.grow.block ob h.lt fun e => block_apart h.acc h.at_ (by decide) e.symm]; exact h.at_
theorem Bld.obNext {vn' v : Value} (h : Bld w B ob tapes start va vn ints items accs) (hp : Pushed w w' B 52 vn vn' (items.map Prod.fst) v) : w'.heap[ob]? = some (.cells #[.int .i64 tapes, .int .i64 start, va, vn] 27 (0, 0)) := by
  rw [hp.grow.block ob h.lt fun e => block_apart h.nxt h.at_ (by decide) e.symm]; exact h.at_
/-- out.Next = append(out.Next, row). -/
theorem Bld.pushNext (l1 l2 : List (Value × List Value)) {vn' v : Value} {xs : List Value} (h : Bld w B ob tapes start va vn (l1 ++ (v, xs) :: l2) items accs) (hp : Pushed w w' B 52 vn vn' (items.map Prod.fst) v) :
    Bld (w'.setCell ⟨ob, 3, none⟩ vn') B ob tapes start va vn' (l1 ++ l2) (items ++ [(v, xs)]) accs := by
  have hob : w'.heap[ob]? = some (.cells #[.int .i64 tapes, .int .i64 start, va, vn] 27 (0, 0)) := by
    rw [hp.grow.block ob h.lt fun e => block_apart h.nxt h.at_ (by decide) e.symm]; exact h.at_
  have ho : Own w' B 2 (l1 ++ (v, xs) :: l2 ++ items) := h.own.grown hp.grow fun k hk p hm => h.nxt.apart (h.own.lst p hm) (by decide) k hk
  have ha : Lst w' B 4 va accs := h.acc.grown hp.grow fun k hk => h.nxt.apart h.acc (by decide) k hk
  refine ⟨Own.perm (ho.setOther (a := ⟨ob, 3, none⟩) hob (by decide) _) ?_, ha.setOther (block_apart ha hob (by decide)) _, ?_, cells_set hob 3 vn', h.obB⟩
  · have h1 : (l1 ++ (v, xs) :: l2 ++ items).Perm ((v, xs) :: (l1 ++ l2 ++ items)) := by
      rw [List.append_assoc, List.append_assoc]
      exact List.perm_middle
    have h2 : ((v, xs) :: (l1 ++ l2 ++ items)).Perm (l1 ++ l2 ++ (items ++ [(v, xs)])) := by
      rw [← List.append_assoc]
      exact (List.perm_append_singleton _ _).symm
    exact h1.trans h2
  · rw [List.map_append]
    exact hp.lst.setOther (block_apart hp.lst hob (by decide)) _

/-- A store into a row that lies in the list of rows already. -/
theorem Bld.setItem {g n cap : Nat} {xs : List Value} (h : Bld w B ob tapes start va vn ints items accs) {j : Nat} (hj : j < items.length) (he : items[j] = (.slice (some ⟨g, 0, none⟩) n cap, xs)) {i : Nat} (hi : i < xs.length) (u : Value) :
    Bld (w.setCell ⟨g, i, none⟩ u) B ob tapes start va vn ints (items.set j (.slice (some ⟨g, 0, none⟩) n cap, xs.set i u)) accs := by
  have e1 : items = items.take j ++ (.slice (some ⟨g, 0, none⟩) n cap, xs) :: items.drop (j + 1) := by
    rw [← he, List.getElem_cons_drop, List.take_append_drop]
  have e2 : items.set j (.slice (some ⟨g, 0, none⟩) n cap, xs.set i u) = items.take j ++ (.slice (some ⟨g, 0, none⟩) n cap, xs.set i u) :: items.drop (j + 1) := List.set_eq_take_append_cons_drop .. |>.trans (if_pos hj)
  have e3 : (items.set j (.slice (some ⟨g, 0, none⟩) n cap, xs.set i u)).map Prod.fst = items.map Prod.fst := by
    rw [e2]; conv => rhs; rw [e1]
    simp
  have ho : Own w B 2 ((ints ++ items.take j) ++ (.slice (some ⟨g, 0, none⟩) n cap, xs) :: items.drop (j + 1)) := by
    have := h.own; rw [e1] at this; rw [List.append_assoc]; exact this
  have hv := Own.get (ints ++ items.take j) (items.drop (j + 1)) ho
  refine ⟨?_, h.acc.setOther (hv.apart h.acc (by decide) g rfl) u, ?_, ?_, h.obB⟩
  · rw [e2, ← List.append_assoc]; exact Own.set _ _ ho hi u
  · rw [e3]; exact h.nxt.setOther (hv.apart h.nxt (by decide) g rfl) u
  · rw [Below.heap_setCell _ _ _ _ (fun e => block_apart hv h.at_ (by decide) (by show some g = some ob; rw [e]))]; exact h.at_
theorem Bld.item (h : Bld w B ob tapes start va vn ints items accs) {j : Nat} (hj : j < items.length) : Lst w B 2 items[j].1 items[j].2 := h.own.lst items[j] (List.mem_append_right _ (List.getElem_mem hj))
/-- What is built in the end: lists in memory of their own. -/
structure Built (w : World) (B : Nat) (va vn : Value) (acc : List Bool) (nx : List (List Int)) : Prop where
  acc : Lst w B 4 va (acc.map Value.bool)
  rows : ∃ items : List (Value × List Value), Own w B 2 items ∧ Lst w B 52 vn (items.map Prod.fst) ∧ items.map Prod.snd = nx.map fun r => r.map (Value.int .i64)

theorem Built.of_bld {acc : List Bool} {nx : List (List Int)} (h : Bld w B ob tapes start va vn ints items accs) (ha : accs = acc.map Value.bool) (hn : items.map Prod.snd = nx.map fun r => r.map (Value.int .i64)) : Built w B va vn acc nx :=
  ⟨by have := h.acc; rwa [ha] at this, items, ⟨fun p hp => h.own.lst p (List.mem_append_right _ hp), (List.pairwise_append.1 h.own.apart).2.1⟩, h.nxt, hn⟩
theorem Built.setLow {acc : List Bool} {nx : List (List Int)} (h : Built w B va vn acc nx) {a : Addr} (ha : a.block < B) (u : Value) : Built (w.setCell a u) B va vn acc nx := by
  obtain ⟨items, h1, h2, h3⟩ := h.rows
  refine ⟨h.acc.setOther (fun e => by have := h.acc.ge e; omega) u, items, ⟨fun p hp => (h1.lst p hp).setOther (fun e => by have := (h1.lst p hp).ge e; omega) u, h1.apart⟩, h2.setOther (fun e => by have := h2.ge e; omega) u, h3⟩
theorem Built.below {acc : List Bool} {nx : List (List Int)} (h : Built w B va vn acc nx) (hb : Below w.heap.size w w') : Built w' B va vn acc nx := by
  obtain ⟨items, h1, h2, h3⟩ := h.rows
  exact ⟨h.acc.below hb, items, h1.below hb, h2.below hb, h3⟩
theorem Built.drewN {acc : List Bool} {nx : List (List Int)} (h : Built w B va vn acc nx) (m : Nat) : Built (w.drewN m) B va vn acc nx := by
  obtain ⟨items, h1, h2, h3⟩ := h.rows
  exact ⟨h.acc, items, h1.drewN m, h2, h3⟩
theorem Built.mono {C : Nat} {acc : List Bool} {nx : List (List Int)} (h : Built w B va vn acc nx) (hC : C ≤ B) : Built w C va vn acc nx := by
  obtain ⟨items, h1, h2, h3⟩ := h.rows
  exact ⟨h.acc.mono hC, items, ⟨fun p hp => (h1.lst p hp).mono hC, h1.apart⟩, h2.mono hC, h3⟩

theorem lst_ints {v : Value} {xs : List Int} (h : Lst w B 2 v (xs.map (Value.int .i64))) (C : Nat) (hC : w.heap.size ≤ C) : Ints w C v xs := by
  have h1 := h.reads C hC (.int .i64 0)
  rw [List.length_map] at h1
  exact h1.congr fun i hi => by simp [List.getD, hi]
theorem lst_bools {v : Value} {xs : List Bool} (h : Lst w B 4 v (xs.map Value.bool)) (C : Nat) (hC : w.heap.size ≤ C) : Bools w C v xs := by
  have h1 := h.reads C hC (.bool false)
  rw [List.length_map] at h1
  exact h1.congr fun i hi => by simp [List.getD, hi]
/-- What is built reads as the relation. -/
theorem Built.reads {acc : List Bool} {nx : List (List Int)} (h : Built w B va vn acc nx) (C : Nat) (hC : w.heap.size ≤ C) (tapes start : Int) : RelAt w C (.agg #[.int .i64 tapes, .int .i64 start, va, vn]) ⟨tapes, start, acc, nx⟩ := by
  obtain ⟨items, h1, h2, h3⟩ := h.rows
  refine ⟨va, vn, rfl, lst_bools h.acc C hC, fun i => (items.map Prod.fst).getD i (.int .i64 0), ?_, fun i hi => ?_⟩
  · have h4 := h2.reads C hC (.int .i64 0)
    have e : (items.map Prod.fst).length = nx.length := by
      have := congrArg List.length h3
      simpa using this
    rw [e] at h4
    exact h4
  · have hil : i < items.length := by
      have := congrArg List.length h3
      simp at this
      show i < _
      rw [this]; exact hi
    have hl := h1.lst items[i] (List.getElem_mem hil)
    have e1 : (items.map Prod.fst).getD i (.int .i64 0) = items[i].1 := by simp [List.getD, hil]
    have e2 : items[i].2 = (nx.getD i []).map (Value.int .i64) := by
      have h5 := congrArg (fun x => x[i]?) h3
      simp [hil, hi] at h5
      rw [h5]
      simp [List.getD, hi]
    show Ints w C ((items.map Prod.fst).getD i (.int .i64 0)) (nx.getD i [])
    rw [e1]
    rw [e2] at hl
    exact lst_ints hl C hC
end Go.Proofs.YtaimealknkhfbaaDoor.Bld
/- What is built is a relation that laws can mark.
   Conditions: none. -/
namespace Go.Proofs.YtaimealknkhfbaaDoor.MarkOf
set_option linter.unusedVariables false
set_option linter.unusedSimpArgs false
open Go.RowKit Mem Copy Rel MarkRow MarkBool MarkRows MarkRel Heap Bld

def lenF (nx : List (List Int)) (i : Nat) : Nat := (nx.getD i []).length
def intF (nx : List (List Int)) (i c : Nat) : Value := .int .i64 ((nx.getD i []).getD c 0)
def boolF (acc : List Bool) (i : Nat) : Value := .bool (acc.getD i false)

theorem built_relF {w : World} {B : Nat} {va vn : Value} {acc : List Bool} {nx : List (List Int)} (h : Built w B va vn acc nx) :
    ∃ V, RelF w B va vn acc.length (boolF acc) nx.length V (lenF nx) (intF nx) := by
  obtain ⟨items, h1, h2, h3⟩ := h.rows
  have hlen : items.length = nx.length := by have := congrArg List.length h3; simpa using this
  have hrow : ∀ i (hi : i < items.length), items[i].2 = (nx.getD i []).map (Value.int .i64) := by
    intro i hi
    have := congrArg (fun x => x[i]?) h3
    have hi' : i < nx.length := by omega
    simp [hi, hi'] at this
    rw [this]; simp [List.getD, hi']
  refine ⟨fun i => ((items.map Prod.fst).getD i (.int .i64 0)), ?_, ?_, fun i hi => ?_, fun i j hi hj hne h0 h0' k hk => ?_⟩
  · have h4 := h.acc
    have e : (acc.map Value.bool).length = acc.length := by simp
    have := Row.of_owns h4 (boolF acc) (fun i hi => by rw [List.length_map] at hi; simp [boolF, List.getD, hi])
    rwa [e] at this
  · have e : (items.map Prod.fst).length = nx.length := by rw [List.length_map, hlen]
    have := Row.of_owns h2 (fun i => ((items.map Prod.fst).getD i (.int .i64 0))) (fun i hi => by simp only [List.getD, List.getElem?_eq_getElem hi, Option.getD_some])
    rwa [e] at this
  · have hi' : i < items.length := by omega
    have hl := h1.lst items[i] (List.getElem_mem hi')
    have e1 : (items.map Prod.fst).getD i (.int .i64 0) = items[i].1 := by simp [List.getD, hi']
    have e2 := hrow i hi'
    show Row w B 2 ((items.map Prod.fst).getD i (.int .i64 0)) (lenF nx i) (intF nx i)
    rw [e1]
    have e3 : items[i].2.length = lenF nx i := by rw [e2, List.length_map]; rfl
    have := Row.of_owns hl (intF nx i) (fun c hc => by
      have hc' : c < (nx.getD i []).length := by rw [e3] at hc; exact hc
      simp only [e2, List.getElem_map]
      unfold intF
      rw [List.getD, List.getElem?_eq_getElem hc', Option.getD_some])
    rwa [e3] at this
  · have hi' : i < items.length := by omega
    have hj' : j < items.length := by omega
    have e1 : (items.map Prod.fst).getD i (.int .i64 0) = items[i].1 := by simp [List.getD, hi']
    have e2 : (items.map Prod.fst).getD j (.int .i64 0) = items[j].1 := by simp [List.getD, hj']
    show ((items.map Prod.fst).getD j (.int .i64 0)).ownBlock ≠ some k
    have hk' : items[i].1.ownBlock = some k := by rw [← e1]; exact hk
    rw [e2]
    rcases Nat.lt_or_gt_of_ne hne with h | h
    · exact List.pairwise_iff_getElem.1 h1.apart i j hi' hj' h k hk'
    · intro e
      exact List.pairwise_iff_getElem.1 h1.apart j i hj' hi' h k e hk'

/-- So is a law's copy of its argument, and its blocks lie between two numbers. -/
theorem own_relF {W : World} {M : Nat} {r : R} (h : Rel.Own W M r) :
    ∃ V, RelF W M (.slice (some ⟨M, 0, none⟩) r.accept.length r.accept.length) (.slice (some ⟨M + 1, 0, none⟩) r.next.length r.next.length) r.accept.length (boolF r.accept) r.next.length V (lenF r.next) (intF r.next) ∧
      ∀ b, InRel (.slice (some ⟨M, 0, none⟩) r.accept.length r.accept.length) r.accept.length r.next.length V (lenF r.next) b → M ≤ b ∧ b < M + 2 + r.next.length := by
  refine ⟨fun i => .slice (some ⟨M + 1 + 1 + i, 0, none⟩) (r.next.getD i []).length (r.next.getD i []).length, ⟨Row.of_row h.fresh.accept, ⟨Row.mono (Row.of_row h.fresh.next.1) (Nat.le_succ _), fun i hi => Row.mono (Row.of_row (h.fresh.next.2 i hi)) (by omega), fun i j hi hj hne _ _ k hk e => ?_⟩⟩, fun b hb => ?_⟩
  · cases hk
    have e2 : M + 1 + 1 + j = M + 1 + 1 + i := by
      have : (some (M + 1 + 1 + j) : Option Nat) = some (M + 1 + 1 + i) := e
      injection this
    omega
  · rcases hb with ⟨-, he⟩ | ⟨i, hi, -, he⟩
    · cases he; show M ≤ M ∧ M < M + 2 + r.next.length; omega
    · cases he; show M ≤ M + 1 + 1 + i ∧ M + 1 + 1 + i < M + 2 + r.next.length; omega
end Go.Proofs.YtaimealknkhfbaaDoor.MarkOf
/- What the functions on columns of one to three tapes answer, the program's and the model's.
   Conditions: stated at each theorem. -/
namespace Go.Proofs.YtaimealknkhfbaaDoor.Columns
set_option linter.unusedVariables false
set_option linter.unusedSimpArgs false
open Go.RowKit

def letA (d : Int) : Int := if d = 0 then 97 else if d = 1 then 98 else 35

theorem idx0 (w : World) : (Instr.index 9 (.string ⟨#[97, 98, 35]⟩) (.int .i64 0)).run Tryd.prog w = .ok (.int .u8 97) w := by kernel_rfl
theorem idx1 (w : World) : (Instr.index 9 (.string ⟨#[97, 98, 35]⟩) (.int .i64 1)).run Tryd.prog w = .ok (.int .u8 98) w := by kernel_rfl
theorem idx2 (w : World) : (Instr.index 9 (.string ⟨#[97, 98, 35]⟩) (.int .i64 2)).run Tryd.prog w = .ok (.int .u8 35) w := by kernel_rfl
theorem idx (d : Int) (h0 : 0 ≤ d) (h3 : d < 3) (w : World) :
    (Instr.index 9 (.string ⟨#[97, 98, 35]⟩) (.int .i64 d)).run Tryd.prog w = .ok (.int .u8 (letA d)) w := by
  have : d = 0 ∨ d = 1 ∨ d = 2 := by omega
  rcases this with rfl | rfl | rfl
  · exact idx0 w
  · exact idx1 w
  · exact idx2 w

theorem pads (w : World) : Calls Tryd.prog 75 #[] w fun e w' => e = .returned (.agg #[.int .u8 35, .int .u8 35, .int .u8 35]) ∧ w.alloc (.cells #[.int .u8 35, .int .u8 35, .int .u8 35] 75) = w' := by
  go_enter Tryd.func75, Tryd.ntmps75
  go_wp2
  exact bodyPost_ret (v := .agg #[.int .u8 35, .int .u8 35, .int .u8 35]) (by simp [results, Tryd.results75, go_sem]) rfl ⟨rfl, rfl⟩


set_option maxHeartbeats 400000 in
theorem letters1 (c : Int) (h0 : 0 ≤ c) (h1 : c ≤ 25) (w : World) :
    Calls Tryd.prog 70 #[.int .i64 1, .int .i64 c] w fun e w' => e = .returned (.agg #[.int .u8 (letA (c % 3)), .int .u8 35, .int .u8 35]) ∧ Grown w w' ∧ Below w.heap.size w w' := by
  have i0 := fun w => idx (c % 3) (by omega) (by omega) w
  go_enter Tryd.func70, Tryd.ntmps70
  go_wp2_with (go_at_call 75; refine (pads _).mono ?_; rintro e w' ⟨rfl, rfl⟩)
  refine wp_loop_rounds 2 ?_
  rw [rounds_succ]
  go_wp2
  rw [rounds_succ]
  go_wp2
  exact bodyPost_ret (v := .agg #[.int .u8 (letA (c % 3)), .int .u8 35, .int .u8 35]) (by simp [results, Tryd.results70, go_sem]) rfl ⟨rfl, by repeat (first | exact Grown.refl _ | apply Grown.drew | apply Grown.alloc), by repeat (first | exact Below.refl _ _ | refine Below.alloc ?_ (by simp; try omega) _)⟩

set_option maxHeartbeats 400000 in
theorem letters2 (c : Int) (h0 : 0 ≤ c) (h1 : c ≤ 25) (w : World) :
    Calls Tryd.prog 70 #[.int .i64 2, .int .i64 c] w fun e w' => e = .returned (.agg #[.int .u8 (letA (c % 3)), .int .u8 (letA (c / 3 % 3)), .int .u8 35]) ∧ Grown w w' ∧ Below w.heap.size w w' := by
  have i0 := fun w => idx (c % 3) (by omega) (by omega) w
  have i1 := fun w => idx (c / 3 % 3) (by omega) (by omega) w
  go_enter Tryd.func70, Tryd.ntmps70
  go_wp2_with (go_at_call 75; refine (pads _).mono ?_; rintro e w' ⟨rfl, rfl⟩)
  refine wp_loop_rounds 3 ?_
  rw [rounds_succ]
  go_wp2
  rw [rounds_succ]
  go_wp2
  rw [rounds_succ]
  go_wp2
  exact bodyPost_ret (v := .agg #[.int .u8 (letA (c % 3)), .int .u8 (letA (c / 3 % 3)), .int .u8 35]) (by simp [results, Tryd.results70, go_sem]) rfl ⟨rfl, by repeat (first | exact Grown.refl _ | apply Grown.drew | apply Grown.alloc), by repeat (first | exact Below.refl _ _ | refine Below.alloc ?_ (by simp; try omega) _)⟩

set_option maxHeartbeats 400000 in
theorem letters3 (c : Int) (h0 : 0 ≤ c) (h1 : c ≤ 25) (w : World) :
    Calls Tryd.prog 70 #[.int .i64 3, .int .i64 c] w fun e w' => e = .returned (.agg #[.int .u8 (letA (c % 3)), .int .u8 (letA (c / 3 % 3)), .int .u8 (letA (c / 3 / 3 % 3))]) ∧ Grown w w' ∧ Below w.heap.size w w' := by
  have i0 := fun w => idx (c % 3) (by omega) (by omega) w
  have i1 := fun w => idx (c / 3 % 3) (by omega) (by omega) w
  have i2 := fun w => idx (c / 3 / 3 % 3) (by omega) (by omega) w
  go_enter Tryd.func70, Tryd.ntmps70
  go_wp2_with (go_at_call 75; refine (pads _).mono ?_; rintro e w' ⟨rfl, rfl⟩)
  refine wp_loop_rounds 4 ?_
  rw [rounds_succ]
  go_wp2
  rw [rounds_succ]
  go_wp2
  rw [rounds_succ]
  go_wp2
  rw [rounds_succ]
  go_wp2
  exact bodyPost_ret (v := .agg #[.int .u8 (letA (c % 3)), .int .u8 (letA (c / 3 % 3)), .int .u8 (letA (c / 3 / 3 % 3))]) (by simp [results, Tryd.results70, go_sem]) rfl ⟨rfl, by repeat (first | exact Grown.refl _ | apply Grown.drew | apply Grown.alloc), by repeat (first | exact Below.refl _ _ | refine Below.alloc ?_ (by simp; try omega) _)⟩

theorem validTapes (n : Int) (w : World) :
    Calls Tryd.prog 37 #[.int .i64 n] w fun e w' => e = .returned (.bool (decide (1 ≤ n ∧ n ≤ 3))) ∧ w = w' := by
  by_cases h : 1 ≤ n
  · by_cases h2 : n ≤ 3
    · go_enter Tryd.func37, Tryd.ntmps37
      go_wp2
      go_ret
      exact ⟨by simp [h, h2], rfl⟩
    · have h3 : decide (n ≤ 3) = false := by simpa using h2
      go_enter Tryd.func37, Tryd.ntmps37
      go_wp2
      go_ret
      exact ⟨by simp, rfl⟩
  · have h3 : decide (1 ≤ n) = false := by simpa using h
    go_enter Tryd.func37, Tryd.ntmps37
    go_wp2
    go_ret
    exact ⟨by simp, rfl⟩

theorem count1 (w : World) : Calls Tryd.prog 38 #[.int .i64 1] w fun e w' => e = .returned (.int .i64 2) ∧ w = w' := by
  go_enter Tryd.func38, Tryd.ntmps38
  go_wp2
  refine wp_loop_rounds 2 ?_
  rw [rounds_succ]
  go_wp2
  rw [rounds_succ]
  go_wp2
  go_ret
  exact ⟨rfl, rfl⟩

theorem count2 (w : World) : Calls Tryd.prog 38 #[.int .i64 2] w fun e w' => e = .returned (.int .i64 8) ∧ w = w' := by
  go_enter Tryd.func38, Tryd.ntmps38
  go_wp2
  refine wp_loop_rounds 3 ?_
  rw [rounds_succ]
  go_wp2
  rw [rounds_succ]
  go_wp2
  rw [rounds_succ]
  go_wp2
  go_ret
  exact ⟨rfl, rfl⟩

theorem count3 (w : World) : Calls Tryd.prog 38 #[.int .i64 3] w fun e w' => e = .returned (.int .i64 26) ∧ w = w' := by
  go_enter Tryd.func38, Tryd.ntmps38
  go_wp2
  refine wp_loop_rounds 4 ?_
  rw [rounds_succ]
  go_wp2
  rw [rounds_succ]
  go_wp2
  rw [rounds_succ]
  go_wp2
  rw [rounds_succ]
  go_wp2
  go_ret
  exact ⟨rfl, rfl⟩

theorem power0 (w : World) : Calls Tryd.prog 49 #[.int .i64 0] w fun e w' => e = .returned (.int .i64 1) ∧ w = w' := by
  go_enter Tryd.func49, Tryd.ntmps49
  go_wp2
  refine wp_loop_rounds 1 ?_
  rw [rounds_succ]
  go_wp2
  go_ret
  exact ⟨rfl, rfl⟩

theorem power1 (w : World) : Calls Tryd.prog 49 #[.int .i64 1] w fun e w' => e = .returned (.int .i64 3) ∧ w = w' := by
  go_enter Tryd.func49, Tryd.ntmps49
  go_wp2
  refine wp_loop_rounds 2 ?_
  rw [rounds_succ]
  go_wp2
  rw [rounds_succ]
  go_wp2
  go_ret
  exact ⟨rfl, rfl⟩

theorem power2 (w : World) : Calls Tryd.prog 49 #[.int .i64 2] w fun e w' => e = .returned (.int .i64 9) ∧ w = w' := by
  go_enter Tryd.func49, Tryd.ntmps49
  go_wp2
  refine wp_loop_rounds 3 ?_
  rw [rounds_succ]
  go_wp2
  rw [rounds_succ]
  go_wp2
  rw [rounds_succ]
  go_wp2
  go_ret
  exact ⟨rfl, rfl⟩

theorem power3 (w : World) : Calls Tryd.prog 49 #[.int .i64 3] w fun e w' => e = .returned (.int .i64 27) ∧ w = w' := by
  go_enter Tryd.func49, Tryd.ntmps49
  go_wp2
  refine wp_loop_rounds 4 ?_
  rw [rounds_succ]
  go_wp2
  rw [rounds_succ]
  go_wp2
  rw [rounds_succ]
  go_wp2
  rw [rounds_succ]
  go_wp2
  go_ret
  exact ⟨rfl, rfl⟩

theorem wide1 (w : World) : Calls Tryd.prog 32 #[.int .i64 1] w fun e w' => e = .returned (.int .i64 2) ∧ w = w' := by
  go_enter Tryd.func32, Tryd.ntmps32
  go_wp2_with (go_at_call 49; refine (power1 _).mono ?_; rintro e w' ⟨rfl, rfl⟩)
  go_ret
  exact ⟨rfl, rfl⟩

theorem wide2 (w : World) : Calls Tryd.prog 32 #[.int .i64 2] w fun e w' => e = .returned (.int .i64 8) ∧ w = w' := by
  go_enter Tryd.func32, Tryd.ntmps32
  go_wp2_with (go_at_call 49; refine (power2 _).mono ?_; rintro e w' ⟨rfl, rfl⟩)
  go_ret
  exact ⟨rfl, rfl⟩

theorem wide3 (w : World) : Calls Tryd.prog 32 #[.int .i64 3] w fun e w' => e = .returned (.int .i64 26) ∧ w = w' := by
  go_enter Tryd.func32, Tryd.ntmps32
  go_wp2_with (go_at_call 49; refine (power3 _).mono ?_; rintro e w' ⟨rfl, rfl⟩)
  go_ret
  exact ⟨rfl, rfl⟩

theorem digit0 (c : Int) (h0 : 0 ≤ c) (h1 : c ≤ 25) (w : World) : Calls Tryd.prog 50 #[.int .i64 c, .int .i64 0] w fun e w' => e = .returned (.int .i64 (c / 1 % 3)) ∧ w = w' := by
  go_enter Tryd.func50, Tryd.ntmps50
  go_wp2_with (go_at_call 49; refine (power0 _).mono ?_; rintro e w' ⟨rfl, rfl⟩)
  go_ret
  exact ⟨by simp, rfl⟩

theorem digit1 (c : Int) (h0 : 0 ≤ c) (h1 : c ≤ 25) (w : World) : Calls Tryd.prog 50 #[.int .i64 c, .int .i64 1] w fun e w' => e = .returned (.int .i64 (c / 3 % 3)) ∧ w = w' := by
  go_enter Tryd.func50, Tryd.ntmps50
  go_wp2_with (go_at_call 49; refine (power1 _).mono ?_; rintro e w' ⟨rfl, rfl⟩)
  go_ret
  exact ⟨by simp, rfl⟩

theorem digit2 (c : Int) (h0 : 0 ≤ c) (h1 : c ≤ 25) (w : World) : Calls Tryd.prog 50 #[.int .i64 c, .int .i64 2] w fun e w' => e = .returned (.int .i64 (c / 9 % 3)) ∧ w = w' := by
  go_enter Tryd.func50, Tryd.ntmps50
  go_wp2_with (go_at_call 49; refine (power2 _).mono ?_; rintro e w' ⟨rfl, rfl⟩)
  go_ret
  exact ⟨by simp, rfl⟩

def inB (x lo hi : Int) : Bool := decide (lo ≤ x ∧ x ≤ hi)
theorem inRange (x lo hi : Int) (w : World) :
    Calls Tryd.prog 46 #[.int .i64 x, .int .i64 lo, .int .i64 hi] w fun e w' => e = .returned (.bool (inB x lo hi)) ∧ w = w' := by
  by_cases h : lo ≤ x
  · by_cases h2 : x ≤ hi
    · have E : inB x lo hi = true := by simp [inB, h, h2]
      have d1 : decide (lo ≤ x) = true := by simpa using h
      have d2 : decide (x ≤ hi) = true := by simpa using h2
      go_enter Tryd.func46, Tryd.ntmps46
      go_wp2
      go_ret
      exact ⟨by first | rfl | (rw [E]; rfl), rfl⟩
    · have E : inB x lo hi = false := by simp [inB, h2]
      have d1 : decide (lo ≤ x) = true := by simpa using h
      have d2 : decide (x ≤ hi) = false := by simpa using h2
      go_enter Tryd.func46, Tryd.ntmps46
      go_wp2
      go_ret
      exact ⟨by first | rfl | (rw [E]; rfl), rfl⟩
  · have E : inB x lo hi = false := by simp [inB, h]
    have d1 : decide (lo ≤ x) = false := by simpa using h
    go_enter Tryd.func46, Tryd.ntmps46
    go_wp2
    go_ret
    exact ⟨by first | rfl | (rw [E]; rfl), rfl⟩

/-- How many columns there are for one to three tapes. -/
def widthOf (t : Int) : Int := if t = 1 then 2 else if t = 2 then 8 else 26

theorem wideAny (t : Int) (h1 : 1 ≤ t) (h3 : t ≤ 3) (w : World) : Calls Tryd.prog 32 #[.int .i64 t] w fun e w' => e = .returned (.int .i64 (widthOf t)) ∧ w = w' := by
  have : t = 1 ∨ t = 2 ∨ t = 3 := by omega
  rcases this with rfl | rfl | rfl
  · exact wide1 w
  · exact wide2 w
  · exact wide3 w

theorem countAny (t : Int) (h1 : 1 ≤ t) (h3 : t ≤ 3) (w : World) : Calls Tryd.prog 38 #[.int .i64 t] w fun e w' => e = .returned (.int .i64 (widthOf t)) ∧ w = w' := by
  have : t = 1 ∨ t = 2 ∨ t = 3 := by omega
  rcases this with rfl | rfl | rfl
  · exact count1 w
  · exact count2 w
  · exact count3 w

end Go.Proofs.YtaimealknkhfbaaDoor.Columns
/- What the functions that look whether a relation is valid answer, the program's and the model's.
   Conditions: the relation is read as XRel's text says. -/
namespace Go.Proofs.YtaimealknkhfbaaDoor.Valid
set_option linter.unusedVariables false
set_option linter.unusedSimpArgs false
open Go.RowKit Mem Rel Columns

def entryOk (n : Int) (y : Int) : Bool := inB y 0 (n - 1)
def rowOk (W n : Int) (x : List Int) : Bool := decide ((x.length : Int) = W) && x.all (entryOk n)
def headB (r : R) : Bool :=
  inB r.tapes 1 3 && decide (1 ≤ (r.accept.length : Int)) && inB r.start 0 (r.accept.length - 1) && decide ((r.next.length : Int) = r.accept.length)
def formB (r : R) : Bool := headB r && r.next.all (rowOk (widthOf r.tapes) r.accept.length)

theorem all_take_succ {α : Type} (xs : List α) (d : α) (p : α → Bool) (k : Nat) (h : k < xs.length) (g : (xs.take k).all p = true) (e : p (xs.getD k d) = true) :
    (xs.take (k + 1)).all p = true := by
  rw [take_succ_getD xs d k h, List.all_append, g, List.all_cons, e]; rfl

theorem all_false {α : Type} (xs : List α) (d : α) (p : α → Bool) (k : Nat) (h : k < xs.length) (e : p (xs.getD k d) = false) : xs.all p = false := by
  rw [List.all_eq_false]
  exact ⟨xs.getD k d, by simp [List.getD, h], by rw [e]; exact Bool.false_ne_true⟩

theorem all_end {α : Type} (xs : List α) (p : α → Bool) (k : Nat) (h : xs.length ≤ k) (g : (xs.take k).all p = true) : xs.all p = true := by
  rwa [List.take_of_length_le h] at g

theorem width_bounds (t : Int) : 2 ≤ widthOf t ∧ widthOf t ≤ 26 := by
  unfold widthOf; split <;> (try split) <;> omega

set_option maxHeartbeats 2000000 in
theorem specForm_core (rt rs : Int) (ra : List Bool) (rn : List (List Int)) (n q : Nat) (HN : Hid (n = ra.length)) (HQ : Hid (q = rn.length)) (bp : Nat) (w : World) (B : Nat)
    (aa ab : Option Addr) (ca bb ob cb : Nat) (U : Nat → Value)
    (c0 : w.cell? ⟨bp, 0, none⟩ = some (.int .i64 rt)) (c1 : w.cell? ⟨bp, 1, none⟩ = some (.int .i64 rs)) (c2 : w.cell? ⟨bp, 2, none⟩ = some (.slice aa n ca)) (c3 : w.cell? ⟨bp, 3, none⟩ = some (.slice ab q cb))
    (hma : n ≤ 9223372036854775807) (hmb : q ≤ 9223372036854775807) (hbb : 0 < q → ab = some ⟨bb, ob, none⟩) (hcb : ∀ i, i < q → w.cell? ⟨bb, ob + i, none⟩ = some (U i)) (hU : ∀ i, i < q → Ints w B (U i) (rn.getD i [])) :
    Calls Tryd.prog 29 #[.pointer (some ⟨bp, 0, none⟩)] w fun e w' => e = .returned (.bool (formB ⟨rt, rs, ra, rn⟩)) ∧ ∃ m, w' = w.drewN m := by
  have HF : Hid (formB ⟨rt, rs, ra, rn⟩ = (headB ⟨rt, rs, ra, rn⟩ && rn.all (rowOk (widthOf rt) n))) := Lib.hid (by rw [HN.out]; rfl)
  have HH : Hid (headB ⟨rt, rs, ra, rn⟩ = (inB rt 1 3 && decide (1 ≤ (n : Int)) && inB rs 0 (n - 1) && decide ((q : Int) = n))) := Lib.hid (by rw [HN.out, HQ.out]; rfl)
  by_cases g1 : 1 ≤ rt ∧ rt ≤ 3
  · have e1 : inB rt 1 3 = true := by simp [inB, g1]
    by_cases g2 : 1 ≤ (n : Int)
    · have d5 : decide ((n : Int) < 1) = false := by simp; omega
      by_cases g3 : 0 ≤ rs ∧ rs ≤ (n : Int) - 1
      · have e3 : inB rs 0 ((n : Int) - 1) = true := by simp [inB, g3]
        by_cases g4 : (q : Int) = n
        · have hqn : q = n := by omega
          subst hqn
          have HHT := Lib.hid (show headB ⟨rt, rs, ra, rn⟩ = true by rw [HH.out, e1, e3]; simp [g2])
          have HE2 := Lib.hid (show formB ⟨rt, rs, ra, rn⟩ = rn.all (rowOk (widthOf rt) q) by rw [HF.out, HHT.out]; rfl)
          clear HF HH HHT g4
          obtain ⟨hW0, hW1⟩ := width_bounds rt
          obtain ⟨r1, r3⟩ := g1
          go_enter Tryd.func29, Tryd.ntmps29
          go_wp2_with (go_at_call 46; refine (inRange _ _ _ _).mono ?_; rintro e w' ⟨rfl, rfl⟩)
          go_loopw [4, 5] (fun i _ wr => ∃ k m : Nat, k ≤ q ∧ i = .int .i64 k ∧ (rn.take k).all (rowOk (widthOf rt) q) = true ∧ wr = w.drewN m) (fun i _ _ => q - (intOf i).toNat)
          case atStart => exact ⟨0, 0, Nat.zero_le _, rfl, rfl, rfl⟩
          case round =>
            obtain ⟨k, m, hk, rfl, hg, rfl⟩ := hrel
            have HG := Lib.hid hg
            clear hg
            by_cases hlt : k < q
            · obtain rfl := hbb (by omega)
              have cH := hcb k hlt
              have hUk := hU k hlt
              obtain ⟨x, hx⟩ : ∃ x, x = rn.getD k [] := ⟨_, rfl⟩
              obtain ⟨u, hu⟩ : ∃ u, u = U k := ⟨_, rfl⟩
              rw [← hu] at cH hUk
              rw [← hx] at hUk
              obtain ⟨ax, bx, ox, cx, hux, hmx, hxx, hcx⟩ := hUk
              obtain ⟨p, hp⟩ : ∃ p, p = x.length := ⟨_, rfl⟩
              rw [← hp] at hux hmx hxx hcx
              rw [hux] at cH
              unfold maxLen at hmx
              have HP := Lib.hid hp
              have HX := Lib.hid hx
              clear hx hu hux hp hcb hU
              have HC := Lib.hid (fun z => (wideAny rt r1 r3 (w.drewN z)).mono fun e w' (h : e = .returned (.int .i64 (widthOf rt)) ∧ w.drewN z = w') => (⟨h.1, 0, h.2.symm⟩ : e = .returned (.int .i64 (widthOf rt)) ∧ ∃ n, w' = (w.drewN z).drewN n))
              obtain ⟨W, hW⟩ : ∃ W, W = widthOf rt := ⟨_, rfl⟩
              rw [← hW] at HC hW0 hW1 HE2 HG
              have HW := Lib.hid hW
              rw [← hW]
              clear hW
              by_cases hl : (p : Int) = W
              · have hl1 : ((p : Int) != W) = false := by simp [hl]
                have HPW := Lib.hid hl
                clear hl
                go_wp2
                go_quiet ((go_at_call 32; exact quiet_drewN HC.out))
                go_wp2
                rw [World.drewN_drewN]
                go_loop [5] (fun j => ∃ l : Nat, l ≤ p ∧ j = .int .i64 l ∧ (x.take l).all (entryOk q) = true) (fun j => p - (intOf j).toNat)
                case atStart => exact ⟨0, Nat.zero_le _, rfl, rfl⟩
                case round =>
                  obtain ⟨l, hl, rfl, hgl⟩ := hrel
                  have HGL := Lib.hid hgl
                  clear hgl
                  by_cases hlp : l < p
                  · obtain rfl := (hxx (by omega)).1
                    have cY := hcx l hlp
                    obtain ⟨y, hy⟩ : ∃ y, y = x.getD l 0 := ⟨_, rfl⟩
                    rw [← hy] at cY
                    have HY := Lib.hid hy
                    clear hy hcx
                    by_cases ho : entryOk q y = true
                    · have hin : inB y 0 ((q : Int) - 1) = true := ho
                      have HA := Lib.hid (all_take_succ x 0 (entryOk q) l (by rw [← HP.out]; exact hlp) HGL.out (by rw [← HY.out]; exact ho))
                      clear ho
                      go_wp2_with (go_at_call 46; refine (inRange _ _ _ _).mono ?_; rintro e w' ⟨rfl, rfl⟩)
                      go_round
                      case rel => exact ⟨l + 1, by omega, by go_num, HA.out⟩
                      case measure => simp [intOf]; omega
                    · have hin : inB y 0 ((q : Int) - 1) = false := by simpa [entryOk] using ho
                      have HA := Lib.hid (show formB ⟨rt, rs, ra, rn⟩ = false by
                        rw [HE2.out]
                        refine all_false rn [] _ k (by rw [← HQ.out]; exact hlt) ?_
                        rw [← HX.out]
                        unfold rowOk
                        rw [all_false x 0 (entryOk q) l (by rw [← HP.out]; exact hlp) (by rw [← HY.out]; simpa using ho)]
                        simp)
                      clear ho
                      go_wp2_with (go_at_call 46; refine (inRange _ _ _ _).mono ?_; rintro e w' ⟨rfl, rfl⟩)
                      go_ret
                      exact ⟨by rw [HA.out]; rfl, _, rfl⟩
                  · have HA := Lib.hid (all_take_succ rn [] (rowOk W q) k (by rw [← HQ.out]; exact hlt) HG.out (by
                      rw [← HX.out]
                      unfold rowOk
                      rw [all_end x (entryOk q) l (by rw [← HP.out]; omega) HGL.out, ← HP.out, decide_eq_true HPW.out]
                      rfl))
                    clear hcx hxx
                    go_wp2
                    go_roundw
                    case rel => exact ⟨k + 1, _, by omega, by go_num, HA.out, rfl⟩
                    case measure => simp [intOf]; omega
              · have hl1 : ((p : Int) != W) = true := by rw [bne_iff_ne]; exact hl
                have HS := Lib.hid (show formB ⟨rt, rs, ra, rn⟩ = false by
                  rw [HE2.out]
                  refine all_false rn [] _ k (by rw [← HQ.out]; exact hlt) ?_
                  rw [← HX.out]
                  unfold rowOk
                  rw [← HP.out, decide_eq_false hl]
                  rfl)
                clear hl hcx hxx
                go_wp2
                go_quiet ((go_at_call 32; exact quiet_drewN HC.out))
                go_wp2
                go_ret
                exact ⟨by rw [HS.out]; rfl, _, World.drewN_drewN ..⟩
            · have HA := Lib.hid (show formB ⟨rt, rs, ra, rn⟩ = true by rw [HE2.out]; exact all_end rn _ k (by rw [← HQ.out]; omega) HG.out)
              clear hcb hU
              go_wp2
              go_ret
              exact ⟨by rw [HA.out]; rfl, _, rfl⟩
        · have HE := Lib.hid (show formB ⟨rt, rs, ra, rn⟩ = false by rw [HF.out, HH.out]; simp [g4])
          have d4 : ((q : Int) != (n : Int)) = true := by rw [bne_iff_ne]; exact g4
          clear HF HH g3 g4 HN HQ hU hcb
          go_enter Tryd.func29, Tryd.ntmps29
          go_wp2_with (go_at_call 46; refine (inRange _ _ _ _).mono ?_; rintro e w' ⟨rfl, rfl⟩)
          go_ret
          exact ⟨by rw [HE.out]; rfl, 0, rfl⟩
      · have HE := Lib.hid (show formB ⟨rt, rs, ra, rn⟩ = false by rw [HF.out, HH.out]; simp [inB, g3])
        have e3 : inB rs 0 ((n : Int) - 1) = false := by simp [inB]; omega
        clear HF HH g3 HN HQ hU hcb
        go_enter Tryd.func29, Tryd.ntmps29
        go_wp2_with (go_at_call 46; refine (inRange _ _ _ _).mono ?_; rintro e w' ⟨rfl, rfl⟩)
        go_ret
        exact ⟨by rw [HE.out]; rfl, 0, rfl⟩
    · have HE := Lib.hid (show formB ⟨rt, rs, ra, rn⟩ = false by rw [HF.out, HH.out]; simp [g2])
      have d5 : decide ((n : Int) < 1) = true := by simp; omega
      clear HF HH g2 HN HQ hU hcb
      go_enter Tryd.func29, Tryd.ntmps29
      go_wp2_with (go_at_call 46; refine (inRange _ _ _ _).mono ?_; rintro e w' ⟨rfl, rfl⟩)
      go_ret
      exact ⟨by rw [HE.out]; rfl, 0, rfl⟩
  · have e1 : inB rt 1 3 = false := by simp [inB]; omega
    have HE := Lib.hid (show formB ⟨rt, rs, ra, rn⟩ = false by rw [HF.out, HH.out, e1]; simp)
    clear HF HH g1 HN HQ hU hcb
    go_enter Tryd.func29, Tryd.ntmps29
    go_wp2_with (go_at_call 46; refine (inRange _ _ _ _).mono ?_; rintro e w' ⟨rfl, rfl⟩)
    go_ret
    exact ⟨by rw [HE.out]; rfl, 0, rfl⟩

/-- At block bp lies a relation's struct, which reads as r. -/
def RelPtr (w : World) (B bp : Nat) (r : R) : Prop :=
  ∃ va vn, w.cell? ⟨bp, 0, none⟩ = some (.int .i64 r.tapes) ∧ w.cell? ⟨bp, 1, none⟩ = some (.int .i64 r.start) ∧ w.cell? ⟨bp, 2, none⟩ = some va ∧ w.cell? ⟨bp, 3, none⟩ = some vn ∧ Bools w B va r.accept ∧ IntRows w B vn r.next

theorem RelPtr.drewN {w : World} {B bp : Nat} {r : R} (h : RelPtr w B bp r) (m : Nat) : RelPtr (w.drewN m) B bp r := h

theorem RelPtr.below {w w' : World} {B B' bp : Nat} {r : R} (h : RelPtr w B bp r) (hb : Below B' w w') (hB : B ≤ B') (hp : bp < B') : RelPtr w' B bp r := by
  obtain ⟨va, vn, c0, c1, c2, c3, ha, hn⟩ := h
  refine ⟨va, vn, ?_, ?_, ?_, ?_, ha.below hb hB, hn.below hb hB⟩
  · rw [hb.cell (p := ⟨bp, 0, none⟩) hp]; exact c0
  · rw [hb.cell (p := ⟨bp, 1, none⟩) hp]; exact c1
  · rw [hb.cell (p := ⟨bp, 2, none⟩) hp]; exact c2
  · rw [hb.cell (p := ⟨bp, 3, none⟩) hp]; exact c3

theorem RelPtr.boxed {w : World} {B : Nat} {r : R} {va vn : Value} (ha : Bools w B va r.accept) (hn : IntRows w B vn r.next) (hB : B ≤ w.heap.size) (t : TypeId) :
    RelPtr (w.alloc (.cells #[.int .i64 r.tapes, .int .i64 r.start, va, vn] t)) B w.heap.size r :=
  ⟨va, vn, World.cell?_alloc_mark .., World.cell?_alloc_mark .., World.cell?_alloc_mark .., World.cell?_alloc_mark ..,
    ha.below ((Below.refl _ _).alloc (Nat.le_refl _) _) hB, hn.below ((Below.refl _ _).alloc (Nat.le_refl _) _) hB⟩

theorem specForm (r : R) (bp : Nat) (w : World) (B : Nat) (h : RelPtr w B bp r) :
    Calls Tryd.prog 29 #[.pointer (some ⟨bp, 0, none⟩)] w fun e w' => e = .returned (.bool (formB r)) ∧ ∃ m, w' = w.drewN m := by
  obtain ⟨va, vn, c0, c1, c2, c3, ⟨aa, ba, oa, ca, rfl, hma, -, -⟩, ⟨U, ⟨ab, bb, ob, cb, rfl, hmb, hbb, hcb⟩, hU⟩⟩ := h
  exact specForm_core r.tapes r.start r.accept r.next _ _ (Lib.hid rfl) (Lib.hid rfl) bp w B aa ab ca bb ob cb U c0 c1 c2 c3 hma hmb (fun h => (hbb h).1) hcb hU

def okB (r : R) : Bool := decide ((r.accept.length : Int) ≤ 150) && formB r

set_option maxHeartbeats 400000 in
theorem specOk (r : R) (bp : Nat) (w : World) (B : Nat) (h : RelPtr w B bp r) :
    Calls Tryd.prog 13 #[.pointer (some ⟨bp, 0, none⟩)] w fun e w' => e = .returned (.bool (okB r)) ∧ ∃ m, w' = w.drewN m := by
  have HC := Lib.hid (specForm r bp w B h)
  obtain ⟨va, vn, -, -, c2, -, ⟨aa, ba, oa, ca, rfl, hma, -, -⟩, -⟩ := h
  unfold maxLen at hma
  obtain ⟨n, hn⟩ : ∃ n, n = r.accept.length := ⟨_, rfl⟩
  rw [← hn] at c2 hma
  have HN := Lib.hid hn
  clear hn
  by_cases hl : (n : Int) ≤ 150
  · have E := Lib.hid (show okB r = formB r by unfold okB; rw [← HN.out, decide_eq_true hl]; rfl)
    have d1 : decide ((n : Int) ≤ 150) = true := by simpa using hl
    obtain ⟨F, hF⟩ : ∃ F, F = formB r := ⟨_, rfl⟩
    rw [← hF] at HC E
    clear hF
    go_enter Tryd.func13, Tryd.ntmps13
    go_wp2_with (go_at_call 29; refine (HC.out).mono ?_; rintro e w' ⟨rfl, n1, rfl⟩)
    go_ret
    exact ⟨by rw [E.out]; rfl, _, rfl⟩
  · have E := Lib.hid (show okB r = false by unfold okB; rw [← HN.out, decide_eq_false hl]; rfl)
    have d1 : decide ((n : Int) ≤ 150) = false := by simpa using hl
    go_enter Tryd.func13, Tryd.ntmps13
    go_wp2_with fail
    go_ret
    exact ⟨by rw [E.out]; rfl, 0, rfl⟩

end Go.Proofs.YtaimealknkhfbaaDoor.Valid
