
/- A relation that a function puts together, list by list, beside lists of numbers of its own.
   Conditions: stated at each theorem. -/
import Derived.Test.YtjplmmokbkkclaaFM5
import Derived.Test.YtjplmmokbkkclaaFM4
import Derived.Deep.QuietTactic
import Derived.BigQuiet
import Derived.Test.YtjplmmokbkkclaaRows
import Derived.Test.YtjplmmokbkkclaaFM3
import Derived.Laws.BytesArg
import Derived.Laws.IdiomStrings
import Derived.WalkKit
namespace Go.Proofs.Ytjplmmokbkkclaa.Bld
set_option linter.unusedVariables false
set_option linter.unusedSimpArgs false
open Go.RowKit Mem Copy Rel Heap

theorem Own.perm {w : World} {B : Nat} {t : TypeId} {l m : List (Value × List Value)} (h : Own w B t l) (hp : l.Perm m) : Own w B t m :=
  ⟨fun p hm => h.lst p (hp.mem_iff.2 hm), (hp.pairwise_iff (fun {a b} => own_symm)).1 h.apart⟩

theorem cells_get {w : World} {b : Nat} {c : Array Value} {t : TypeId} {r : Nat × Nat} (h : w.heap[b]? = some (.cells c t r)) (i : Nat) : w.cell? ⟨b, i, none⟩ = c[i]? := by simp [World.cell?, h]
theorem cells_free {w : World} {b : Nat} {c : Array Value} {t : TypeId} (h : w.heap[b]? = some (.cells c t (0, 0))) (i : Nat) : w.frozen? ⟨b, i, none⟩ = false := by simp [World.frozen?, h]
theorem cells_set {w : World} {b : Nat} {c : Array Value} {t : TypeId} {r : Nat × Nat} (h : w.heap[b]? = some (.cells c t r)) (i : Nat) (u : Value) : (w.setCell ⟨b, i, none⟩ u).heap[b]? = some (.cells (c.setIfInBounds i u) t r) := by
  have hlt := lt_of_block h
  have h' : w.heap[b] = .cells c t r := by simpa [Array.getElem?_eq_getElem hlt] using h
  show (w.heap.modify b _)[b]? = _
  rw [Array.getElem?_eq_getElem (by simpa using hlt), Array.getElem_modify_self, h']
  rfl

/-- The struct in block ob holds the lists va and vn; items are the rows that vn has; ints are lists beside. -/
structure Bld (w : World) (B ob : Nat) (tapes start : Int) (va vn : Value) (ints items : List (Value × List Value)) (accs : List Value) : Prop where
  own : Own w B 2 (ints ++ items)
  acc : Lst w B 4 va accs
  nxt : Lst w B 52 vn (items.map Prod.fst)
  at_ : w.heap[ob]? = some (.cells #[.int .i64 tapes, .int .i64 start, va, vn] 30 (0, 0))
  obB : B ≤ ob

variable {w w' : World} {B ob : Nat} {tapes start : Int} {va vn : Value} {ints items : List (Value × List Value)} {accs : List Value}

theorem Bld.below (h : Bld w B ob tapes start va vn ints items accs) (hb : Below w.heap.size w w') : Bld w' B ob tapes start va vn ints items accs :=
  ⟨h.own.below hb, h.acc.below hb, h.nxt.below hb, by rw [hb.block ob (lt_of_block h.at_)]; exact h.at_, h.obB⟩
theorem Bld.drew (h : Bld w B ob tapes start va vn ints items accs) : Bld w.drew B ob tapes start va vn ints items accs := ⟨h.own.drew, h.acc, h.nxt, h.at_, h.obB⟩
theorem Bld.drewN (h : Bld w B ob tapes start va vn ints items accs) (m : Nat) : Bld (w.drewN m) B ob tapes start va vn ints items accs := ⟨h.own.drewN m, h.acc, h.nxt, h.at_, h.obB⟩
theorem Bld.alloc (h : Bld w B ob tapes start va vn ints items accs) (o : Obj) : Bld (w.alloc o) B ob tapes start va vn ints items accs := h.below ((Below.refl _ _).alloc (Nat.le_refl _) _)
theorem Bld.lt (h : Bld w B ob tapes start va vn ints items accs) : ob < w.heap.size := lt_of_block h.at_
theorem Bld.c2 (h : Bld w B ob tapes start va vn ints items accs) : w.cell? ⟨ob, 2, none⟩ = some va := by rw [cells_get h.at_]; rfl
theorem Bld.c3 (h : Bld w B ob tapes start va vn ints items accs) : w.cell? ⟨ob, 3, none⟩ = some vn := by rw [cells_get h.at_]; rfl

theorem Bld.pushInt (l1 l2 : List (Value × List Value)) {v v' : Value} {xs : List Value} {u : Value} (h : Bld w B ob tapes start va vn (l1 ++ (v, xs) :: l2) items accs) (hp : Pushed w w' B 2 v v' xs u) :
    Bld w' B ob tapes start va vn (l1 ++ (v', xs ++ [u]) :: l2) items accs := by
  have ho : Own w B 2 (l1 ++ (v, xs) :: (l2 ++ items)) := by have := h.own; rw [List.append_assoc] at this; exact this
  have hv := Own.get l1 (l2 ++ items) ho
  refine ⟨?_, h.acc.grown hp.grow fun k hk => hv.apart h.acc (by decide) k hk, h.nxt.grown hp.grow fun k hk => hv.apart h.nxt (by decide) k hk, ?_, h.obB⟩
  · rw [List.append_assoc]; exact Own.push l1 (l2 ++ items) ho hp
  · rw [hp.grow.block ob h.lt fun e => block_apart hv h.at_ (by decide) e.symm]; exact h.at_
theorem Bld.setInt (l1 l2 : List (Value × List Value)) {g n cap : Nat} {xs : List Value} (h : Bld w B ob tapes start va vn (l1 ++ (.slice (some ⟨g, 0, none⟩) n cap, xs) :: l2) items accs) {i : Nat} (hi : i < xs.length) (u : Value) :
    Bld (w.setCell ⟨g, i, none⟩ u) B ob tapes start va vn (l1 ++ (.slice (some ⟨g, 0, none⟩) n cap, xs.set i u) :: l2) items accs := by
  have ho : Own w B 2 (l1 ++ (.slice (some ⟨g, 0, none⟩) n cap, xs) :: (l2 ++ items)) := by have := h.own; rw [List.append_assoc] at this; exact this
  have hv := Own.get l1 (l2 ++ items) ho
  refine ⟨?_, h.acc.setOther (hv.apart h.acc (by decide) g rfl) u, h.nxt.setOther (hv.apart h.nxt (by decide) g rfl) u, ?_, h.obB⟩
  · rw [List.append_assoc]; exact Own.set l1 (l2 ++ items) ho hi u
  · rw [Below.heap_setCell _ _ _ _ (fun e => block_apart hv h.at_ (by decide) (by show some g = some ob; rw [e]))]; exact h.at_
/-- A list that is new. -/
theorem Bld.addInt (h : Bld w B ob tapes start va vn ints items accs) (hb : Below w.heap.size w w') {v : Value} {xs : List Value} (hl : Lst w' B 2 v xs) (hn : ∀ k, v.ownBlock = some k → w.heap.size ≤ k) :
    Bld w' B ob tapes start va vn ((v, xs) :: ints) items accs :=
  ⟨h.own.addNew hb hl hn, h.acc.below hb, h.nxt.below hb, by rw [hb.block ob h.lt]; exact h.at_, h.obB⟩
theorem Bld.perm {ints' : List (Value × List Value)} (h : Bld w B ob tapes start va vn ints items accs) (hp : ints.Perm ints') : Bld w B ob tapes start va vn ints' items accs :=
  ⟨Own.perm h.own (hp.append_right items), h.acc, h.nxt, h.at_, h.obB⟩

/-- out.Accept = append(out.Accept, u). -/
theorem Bld.pushAcc {va' : Value} {u : Value} (h : Bld w B ob tapes start va vn ints items accs) (hp : Pushed w w' B 4 va va' accs u) :
    Bld (w'.setCell ⟨ob, 2, none⟩ va') B ob tapes start va' vn ints items (accs ++ [u]) := by
  have hob : w'.heap[ob]? = some (.cells #[.int .i64 tapes, .int .i64 start, va, vn] 30 (0, 0)) := by
    rw [hp.grow.block ob h.lt fun e => block_apart h.acc h.at_ (by decide) e.symm]; exact h.at_
  have ho : Own w' B 2 (ints ++ items) := h.own.grown hp.grow fun k hk p hm => h.acc.apart (h.own.lst p hm) (by decide) k hk
  have hn : Lst w' B 52 vn (items.map Prod.fst) := h.nxt.grown hp.grow fun k hk => h.acc.apart h.nxt (by decide) k hk
  exact ⟨ho.setOther (a := ⟨ob, 2, none⟩) hob (by decide) _, hp.lst.setOther (block_apart hp.lst hob (by decide)) _, hn.setOther (block_apart hn hob (by decide)) _, cells_set hob 2 va', h.obB⟩
theorem Bld.obAcc {va' : Value} {u : Value} (h : Bld w B ob tapes start va vn ints items accs) (hp : Pushed w w' B 4 va va' accs u) : w'.heap[ob]? = some (.cells #[.int .i64 tapes, .int .i64 start, va, vn] 30 (0, 0)) := by
  rw [hp.grow.block ob h.lt fun e => block_apart h.acc h.at_ (by decide) e.symm]; exact h.at_
theorem Bld.obNext {vn' v : Value} (h : Bld w B ob tapes start va vn ints items accs) (hp : Pushed w w' B 52 vn vn' (items.map Prod.fst) v) : w'.heap[ob]? = some (.cells #[.int .i64 tapes, .int .i64 start, va, vn] 30 (0, 0)) := by
  rw [hp.grow.block ob h.lt fun e => block_apart h.nxt h.at_ (by decide) e.symm]; exact h.at_
/-- out.Next = append(out.Next, row). -/
theorem Bld.pushNext (l1 l2 : List (Value × List Value)) {vn' v : Value} {xs : List Value} (h : Bld w B ob tapes start va vn (l1 ++ (v, xs) :: l2) items accs) (hp : Pushed w w' B 52 vn vn' (items.map Prod.fst) v) :
    Bld (w'.setCell ⟨ob, 3, none⟩ vn') B ob tapes start va vn' (l1 ++ l2) (items ++ [(v, xs)]) accs := by
  have hob : w'.heap[ob]? = some (.cells #[.int .i64 tapes, .int .i64 start, va, vn] 30 (0, 0)) := by
    rw [hp.grow.block ob h.lt fun e => block_apart h.nxt h.at_ (by decide) e.symm]; exact h.at_
  have ho : Own w' B 2 (l1 ++ (v, xs) :: l2 ++ items) := h.own.grown hp.grow fun k hk p hm => h.nxt.apart (h.own.lst p hm) (by decide) k hk
  have ha : Lst w' B 4 va accs := h.acc.grown hp.grow fun k hk => h.nxt.apart h.acc (by decide) k hk
  refine ⟨Own.perm (ho.setOther (a := ⟨ob, 3, none⟩) hob (by decide) _) ?_, ha.setOther (block_apart ha hob (by decide)) _, ?_, cells_set hob 3 vn', h.obB⟩
  · have h1 : (l1 ++ (v, xs) :: l2 ++ items).Perm ((v, xs) :: (l1 ++ l2 ++ items)) := by
      rw [List.append_assoc, List.append_assoc]
      exact List.perm_middle
    have h2 : ((v, xs) :: (l1 ++ l2 ++ items)).Perm (l1 ++ l2 ++ (items ++ [(v, xs)])) := by
      rw [← List.append_assoc]
      exact (List.perm_append_singleton _ _).symm
    exact h1.trans h2
  · rw [List.map_append]
    exact hp.lst.setOther (block_apart hp.lst hob (by decide)) _

/-- A store into a row that lies in the list of rows already. -/
theorem Bld.setItem {g n cap : Nat} {xs : List Value} (h : Bld w B ob tapes start va vn ints items accs) {j : Nat} (hj : j < items.length) (he : items[j] = (.slice (some ⟨g, 0, none⟩) n cap, xs)) {i : Nat} (hi : i < xs.length) (u : Value) :
    Bld (w.setCell ⟨g, i, none⟩ u) B ob tapes start va vn ints (items.set j (.slice (some ⟨g, 0, none⟩) n cap, xs.set i u)) accs := by
  have e1 : items = items.take j ++ (.slice (some ⟨g, 0, none⟩) n cap, xs) :: items.drop (j + 1) := by
    rw [← he, List.getElem_cons_drop, List.take_append_drop]
  have e2 : items.set j (.slice (some ⟨g, 0, none⟩) n cap, xs.set i u) = items.take j ++ (.slice (some ⟨g, 0, none⟩) n cap, xs.set i u) :: items.drop (j + 1) := List.set_eq_take_append_cons_drop .. |>.trans (if_pos hj)
  have e3 : (items.set j (.slice (some ⟨g, 0, none⟩) n cap, xs.set i u)).map Prod.fst = items.map Prod.fst := by
    rw [e2]; conv => rhs; rw [e1]
    simp
  have ho : Own w B 2 ((ints ++ items.take j) ++ (.slice (some ⟨g, 0, none⟩) n cap, xs) :: items.drop (j + 1)) := by
    have := h.own; rw [e1] at this; rw [List.append_assoc]; exact this
  have hv := Own.get (ints ++ items.take j) (items.drop (j + 1)) ho
  refine ⟨?_, h.acc.setOther (hv.apart h.acc (by decide) g rfl) u, ?_, ?_, h.obB⟩
  · rw [e2, ← List.append_assoc]; exact Own.set _ _ ho hi u
  · rw [e3]; exact h.nxt.setOther (hv.apart h.nxt (by decide) g rfl) u
  · rw [Below.heap_setCell _ _ _ _ (fun e => block_apart hv h.at_ (by decide) (by show some g = some ob; rw [e]))]; exact h.at_
theorem Bld.item (h : Bld w B ob tapes start va vn ints items accs) {j : Nat} (hj : j < items.length) : Lst w B 2 items[j].1 items[j].2 := h.own.lst items[j] (List.mem_append_right _ (List.getElem_mem hj))
/-- What is built in the end: lists in memory of their own. -/
structure Built (w : World) (B : Nat) (va vn : Value) (acc : List Bool) (nx : List (List Int)) : Prop where
  acc : Lst w B 4 va (acc.map Value.bool)
  rows : ∃ items : List (Value × List Value), Own w B 2 items ∧ Lst w B 52 vn (items.map Prod.fst) ∧ items.map Prod.snd = nx.map fun r => r.map (Value.int .i64)

theorem Built.of_bld {acc : List Bool} {nx : List (List Int)} (h : Bld w B ob tapes start va vn ints items accs) (ha : accs = acc.map Value.bool) (hn : items.map Prod.snd = nx.map fun r => r.map (Value.int .i64)) : Built w B va vn acc nx :=
  ⟨by have := h.acc; rwa [ha] at this, items, ⟨fun p hp => h.own.lst p (List.mem_append_right _ hp), (List.pairwise_append.1 h.own.apart).2.1⟩, h.nxt, hn⟩
theorem Built.setLow {acc : List Bool} {nx : List (List Int)} (h : Built w B va vn acc nx) {a : Addr} (ha : a.block < B) (u : Value) : Built (w.setCell a u) B va vn acc nx := by
  obtain ⟨items, h1, h2, h3⟩ := h.rows
  refine ⟨h.acc.setOther (fun e => by have := h.acc.ge e; omega) u, items, ⟨fun p hp => (h1.lst p hp).setOther (fun e => by have := (h1.lst p hp).ge e; omega) u, h1.apart⟩, h2.setOther (fun e => by have := h2.ge e; omega) u, h3⟩
theorem Built.below {acc : List Bool} {nx : List (List Int)} (h : Built w B va vn acc nx) (hb : Below w.heap.size w w') : Built w' B va vn acc nx := by
  obtain ⟨items, h1, h2, h3⟩ := h.rows
  exact ⟨h.acc.below hb, items, h1.below hb, h2.below hb, h3⟩
theorem Built.drewN {acc : List Bool} {nx : List (List Int)} (h : Built w B va vn acc nx) (m : Nat) : Built (w.drewN m) B va vn acc nx := by
  obtain ⟨items, h1, h2, h3⟩ := h.rows
  exact ⟨h.acc, items, h1.drewN m, h2, h3⟩
theorem Built.mono {C : Nat} {acc : List Bool} {nx : List (List Int)} (h : Built w B va vn acc nx) (hC : C ≤ B) : Built w C va vn acc nx := by
  obtain ⟨items, h1, h2, h3⟩ := h.rows
  exact ⟨h.acc.mono hC, items, ⟨fun p hp => (h1.lst p hp).mono hC, h1.apart⟩, h2.mono hC, h3⟩

theorem lst_ints {v : Value} {xs : List Int} (h : Lst w B 2 v (xs.map (Value.int .i64))) (C : Nat) (hC : w.heap.size ≤ C) : Ints w C v xs := by
  have h1 := h.reads C hC (.int .i64 0)
  rw [List.length_map] at h1
  exact h1.congr fun i hi => by simp [List.getD, hi]
theorem lst_bools {v : Value} {xs : List Bool} (h : Lst w B 4 v (xs.map Value.bool)) (C : Nat) (hC : w.heap.size ≤ C) : Bools w C v xs := by
  have h1 := h.reads C hC (.bool false)
  rw [List.length_map] at h1
  exact h1.congr fun i hi => by simp [List.getD, hi]
/-- What is built reads as the relation. -/
theorem Built.reads {acc : List Bool} {nx : List (List Int)} (h : Built w B va vn acc nx) (C : Nat) (hC : w.heap.size ≤ C) (tapes start : Int) : RelAt w C (.agg #[.int .i64 tapes, .int .i64 start, va, vn]) ⟨tapes, start, acc, nx⟩ := by
  obtain ⟨items, h1, h2, h3⟩ := h.rows
  refine ⟨va, vn, rfl, lst_bools h.acc C hC, fun i => (items.map Prod.fst).getD i (.int .i64 0), ?_, fun i hi => ?_⟩
  · have h4 := h2.reads C hC (.int .i64 0)
    have e : (items.map Prod.fst).length = nx.length := by
      have := congrArg List.length h3
      simpa using this
    rw [e] at h4
    exact h4
  · have hil : i < items.length := by
      have := congrArg List.length h3
      simp at this
      show i < _
      rw [this]; exact hi
    have hl := h1.lst items[i] (List.getElem_mem hil)
    have e1 : (items.map Prod.fst).getD i (.int .i64 0) = items[i].1 := by simp [List.getD, hil]
    have e2 : items[i].2 = (nx.getD i []).map (Value.int .i64) := by
      have h5 := congrArg (fun x => x[i]?) h3
      simp [hil, hi] at h5
      rw [h5]
      simp [List.getD, hi]
    show Ints w C ((items.map Prod.fst).getD i (.int .i64 0)) (nx.getD i [])
    rw [e1]
    rw [e2] at hl
    exact lst_ints hl C hC
end Go.Proofs.Ytjplmmokbkkclaa.Bld
/- What is built is a relation that laws can mark.
   Conditions: none. -/
namespace Go.Proofs.Ytjplmmokbkkclaa.MarkOf
set_option linter.unusedVariables false
set_option linter.unusedSimpArgs false
open Go.RowKit Mem Copy Rel MarkRow MarkBool MarkRows MarkRel Heap Bld

def lenF (nx : List (List Int)) (i : Nat) : Nat := (nx.getD i []).length
def intF (nx : List (List Int)) (i c : Nat) : Value := .int .i64 ((nx.getD i []).getD c 0)
def boolF (acc : List Bool) (i : Nat) : Value := .bool (acc.getD i false)

theorem built_relF {w : World} {B : Nat} {va vn : Value} {acc : List Bool} {nx : List (List Int)} (h : Built w B va vn acc nx) :
    ∃ V, RelF w B va vn acc.length (boolF acc) nx.length V (lenF nx) (intF nx) := by
  obtain ⟨items, h1, h2, h3⟩ := h.rows
  have hlen : items.length = nx.length := by have := congrArg List.length h3; simpa using this
  have hrow : ∀ i (hi : i < items.length), items[i].2 = (nx.getD i []).map (Value.int .i64) := by
    intro i hi
    have := congrArg (fun x => x[i]?) h3
    have hi' : i < nx.length := by omega
    simp [hi, hi'] at this
    rw [this]; simp [List.getD, hi']
  refine ⟨fun i => ((items.map Prod.fst).getD i (.int .i64 0)), ?_, ?_, fun i hi => ?_, fun i j hi hj hne h0 h0' k hk => ?_⟩
  · have h4 := h.acc
    have e : (acc.map Value.bool).length = acc.length := by simp
    have := Row.of_owns h4 (boolF acc) (fun i hi => by rw [List.length_map] at hi; simp [boolF, List.getD, hi])
    rwa [e] at this
  · have e : (items.map Prod.fst).length = nx.length := by rw [List.length_map, hlen]
    have := Row.of_owns h2 (fun i => ((items.map Prod.fst).getD i (.int .i64 0))) (fun i hi => by simp only [List.getD, List.getElem?_eq_getElem hi, Option.getD_some])
    rwa [e] at this
  · have hi' : i < items.length := by omega
    have hl := h1.lst items[i] (List.getElem_mem hi')
    have e1 : (items.map Prod.fst).getD i (.int .i64 0) = items[i].1 := by simp [List.getD, hi']
    have e2 := hrow i hi'
    show Row w B 2 ((items.map Prod.fst).getD i (.int .i64 0)) (lenF nx i) (intF nx i)
    rw [e1]
    have e3 : items[i].2.length = lenF nx i := by rw [e2, List.length_map]; rfl
    have := Row.of_owns hl (intF nx i) (fun c hc => by
      have hc' : c < (nx.getD i []).length := by rw [e3] at hc; exact hc
      simp only [e2, List.getElem_map]
      unfold intF
      rw [List.getD, List.getElem?_eq_getElem hc', Option.getD_some])
    rwa [e3] at this
  · have hi' : i < items.length := by omega
    have hj' : j < items.length := by omega
    have e1 : (items.map Prod.fst).getD i (.int .i64 0) = items[i].1 := by simp [List.getD, hi']
    have e2 : (items.map Prod.fst).getD j (.int .i64 0) = items[j].1 := by simp [List.getD, hj']
    show ((items.map Prod.fst).getD j (.int .i64 0)).ownBlock ≠ some k
    have hk' : items[i].1.ownBlock = some k := by rw [← e1]; exact hk
    rw [e2]
    rcases Nat.lt_or_gt_of_ne hne with h | h
    · exact List.pairwise_iff_getElem.1 h1.apart i j hi' hj' h k hk'
    · intro e
      exact List.pairwise_iff_getElem.1 h1.apart j i hj' hi' h k e hk'

/-- So is a law's copy of its argument, and its blocks lie between two numbers. -/
theorem own_relF {W : World} {M : Nat} {r : R} (h : Rel.Own W M r) :
    ∃ V, RelF W M (.slice (some ⟨M, 0, none⟩) r.accept.length r.accept.length) (.slice (some ⟨M + 1, 0, none⟩) r.next.length r.next.length) r.accept.length (boolF r.accept) r.next.length V (lenF r.next) (intF r.next) ∧
      ∀ b, InRel (.slice (some ⟨M, 0, none⟩) r.accept.length r.accept.length) r.accept.length r.next.length V (lenF r.next) b → M ≤ b ∧ b < M + 2 + r.next.length := by
  refine ⟨fun i => .slice (some ⟨M + 1 + 1 + i, 0, none⟩) (r.next.getD i []).length (r.next.getD i []).length, ⟨Row.of_row h.fresh.accept, ⟨Row.mono (Row.of_row h.fresh.next.1) (Nat.le_succ _), fun i hi => Row.mono (Row.of_row (h.fresh.next.2 i hi)) (by omega), fun i j hi hj hne _ _ k hk e => ?_⟩⟩, fun b hb => ?_⟩
  · cases hk
    have e2 : M + 1 + 1 + j = M + 1 + 1 + i := by
      have : (some (M + 1 + 1 + j) : Option Nat) = some (M + 1 + 1 + i) := e
      injection this
    omega
  · rcases hb with ⟨-, he⟩ | ⟨i, hi, -, he⟩
    · cases he; show M ≤ M ∧ M < M + 2 + r.next.length; omega
    · cases he; show M ≤ M + 1 + 1 + i ∧ M + 1 + 1 + i < M + 2 + r.next.length; omega
end Go.Proofs.Ytjplmmokbkkclaa.MarkOf
/- Lists of texts in memory: how they are measured, copied and compared.
   Conditions: stated at each theorem. -/
namespace Go.Proofs.Ytjplmmokbkkclaa.Strs
open Go.RowKit Mem Copy Rel

/-- The slice value v reads as the texts ss, none of which is longer than a text can be; its row lies below block B. -/
def StrsAt (w : World) (B : Nat) (v : Value) (ss : List ByteArray) : Prop :=
  Sl w B v ss.length (fun i => .string (ss.getD i ByteArray.empty)) ∧ ∀ i, i < ss.length → (ss.getD i ByteArray.empty).size ≤ maxLen

theorem StrsAt.below {w w' : World} {B B' : Nat} {v : Value} {ss : List ByteArray} (h : StrsAt w B v ss) (hb : Below B' w w') (hB : B ≤ B') : StrsAt w' B v ss := ⟨h.1.below hb hB, h.2⟩
theorem StrsAt.mono {w : World} {B B' : Nat} {v : Value} {ss : List ByteArray} (h : StrsAt w B v ss) (hB : B ≤ B') : StrsAt w B' v ss := ⟨h.1.mono hB, h.2⟩

def szStrsTo : Int → List ByteArray → Int
  | left, [] => left
  | left, x :: r => if left < (x.size : Int) then -1 else szStrsTo (left - x.size) r
def szStrs (left : Int) (ss : List ByteArray) : Int := if left < (ss.length : Int) then -1 else szStrsTo (left - ss.length) ss

theorem szStrs_len {left : Int} {ss : List ByteArray} (h : 0 ≤ szStrs left ss) : (ss.length : Int) ≤ left := by
  unfold szStrs at h
  by_cases h1 : left < (ss.length : Int)
  · rw [if_pos h1] at h; omega
  · omega

theorem info9 : (Try.prog.info? 9).map (fun i => (i.zero, i.size, i.bytes)) = some (some (.string ⟨#[]⟩), 1, 16) := by kernel_rfl

theorem bytes_ne {x y : ByteArray} (h : ¬ x = y) : (x.toList == y.toList) = false := by
  rw [beq_eq_false_iff_ne]
  intro e
  rw [ByteArray.toList_eq, ByteArray.toList_eq] at e
  exact h (ByteArray.ext (Array.ext' e))

set_option maxHeartbeats 400000 in
theorem eqStrs (xs ys : List ByteArray) (va vb : Value) (w : World) (B : Nat) (ha : StrsAt w B va xs) (hb : StrsAt w B vb ys) :
    Calls Try.prog 12 #[va, vb] w fun e w' => e = .returned (.bool (same xs ys)) ∧ ∃ n, w' = w.drewN n := by
  obtain ⟨⟨a, ba, oa, ca, rfl, hma, haa, hca⟩, -⟩ := ha
  obtain ⟨⟨b, bb, ob, cb, rfl, hmb, hbb, hcb⟩, -⟩ := hb
  unfold maxLen at hma hmb
  by_cases hl : xs.length = ys.length
  · have HL := Lib.hid hl
    obtain ⟨n, hn⟩ : ∃ n, n = xs.length := ⟨_, rfl⟩
    have hn2 : ys.length = n := by omega
    rw [← hn, hn2]
    rw [← hn] at hma hca haa
    rw [hn2] at hcb hbb
    have HN := Lib.hid hn
    have HN2 := Lib.hid hn2
    clear hl hn hn2 hmb
    go_enter Try.func12, Try.ntmps12
    go_wp2
    go_loopw [5] (fun i wr => ∃ k m : Nat, k ≤ n ∧ i = .int .i64 k ∧ xs.take k = ys.take k ∧ wr = w.drewN m) (fun i _ => n - (intOf i).toNat)
    case atStart => exact ⟨0, 0, Nat.zero_le _, rfl, rfl, rfl⟩
    case round =>
      obtain ⟨k, m, hk, rfl, hg, rfl⟩ := hrel
      have HG := Lib.hid hg
      clear hg
      by_cases hlt : k < n
      · obtain rfl := (haa (by omega)).1
        obtain rfl := (hbb (by omega)).1
        clear haa hbb
        have cA := hca k hlt
        have cB := hcb k hlt
        obtain ⟨x, hx⟩ : ∃ x, x = xs.getD k ByteArray.empty := ⟨_, rfl⟩
        obtain ⟨y, hy⟩ : ∃ y, y = ys.getD k ByteArray.empty := ⟨_, rfl⟩
        rw [← hx] at cA
        rw [← hy] at cB
        by_cases he : x = y
        · have HY := Lib.hid (same_step xs ys ByteArray.empty k (by rw [← HN.out]; exact hlt) (by rw [HN2.out]; exact hlt) HG.out (by rw [← hx, ← hy, he]))
          clear hca hcb hx hy
          subst he
          go_wp2
          go_quiet (fail)
          go_wp2
          go_roundw
          case rel => exact ⟨k + 1, _, by omega, by go_num, HY.out, rfl⟩
          case measure => simp [intOf]; omega
        · have HS := Lib.hid (same_no xs ys ByteArray.empty k (by rw [← hx, ← hy]; exact he))
          have ht : (x.toList == y.toList) = false := bytes_ne he
          clear hca hcb hx hy
          go_wp2
          go_quiet (fail)
          go_wp2
          go_ret
          exact ⟨by rw [HS.out]; rfl, _, World.drewN_drewN ..⟩
      · have HE := Lib.hid (same_end xs ys k (by rw [← HN.out]; omega) HL.out HG.out)
        go_wp2
        go_ret
        exact ⟨by rw [HE.out]; rfl, _, rfl⟩
  · have HS := Lib.hid (same_len xs ys hl)
    have h1 : ((xs.length : Int) != (ys.length : Int)) = true := by rw [bne_iff_ne]; omega
    obtain ⟨p, hp⟩ : ∃ p : Nat, p = xs.length := ⟨_, rfl⟩
    obtain ⟨q, hq⟩ : ∃ q : Nat, q = ys.length := ⟨_, rfl⟩
    rw [← hp, ← hq] at h1
    rw [← hp, ← hq]
    clear hca hcb hl hma hmb hp hq haa hbb
    go_enter Try.func12, Try.ntmps12
    go_wp2
    go_ret
    exact ⟨by rw [HS.out]; rfl, 0, rfl⟩
end Go.Proofs.Ytjplmmokbkkclaa.Strs
/- The functions with which the laws mark memory and look at the marks.
   Conditions: stated at each theorem. -/
namespace Go.Proofs.Ytjplmmokbkkclaa.MarkT
open Go.RowKit Mem

theorem strs_add (xs ys : List Int) : strOfNums xs ++ strOfNums ys = strOfNums (xs ++ ys) := by
  apply ByteArray.ext
  simp [strOfNums, ByteArray.data_append]

/-- The digits of a number ahead of others. -/
def decTo : Nat → Nat → List Int → List Int
  | 0, _, acc => acc
  | f + 1, k, acc => if k = 0 then acc else decTo f (k / 10) ((48 + (k : Int) % 10) :: acc)
def markS (k : Nat) : ByteArray := strOfNums (109 :: decTo 20 k [])

theorem decTo_zero (f : Nat) (acc : List Int) : decTo f 0 acc = acc := by
  cases f with
  | zero => rfl
  | succ f => unfold decTo; rw [if_pos rfl]

theorem conv1 (W : World) (x : Int) :
    (convert 74 9 (.slice (some ⟨W.heap.size, 0, none⟩) 1 1)).run Try.prog (W.alloc (.cells #[.int .u8 x] 5)) = .ok (.string (strOfNums [x])) (W.alloc (.cells #[.int .u8 x] 5)) := by
  refine run_convert_bytes_arg _ 74 5 Try.underlying74 Try.underlying5 _ 0 1 1 _ rfl (fun i hi => ?_) 9 Try.underlying9
  have : i = 0 := by omega
  subst this
  rw [World.cell?_alloc_mark]; rfl

set_option maxHeartbeats 1000000 in
theorem markText (k : Nat) (w : World) (h1 : 1 ≤ k) (h2 : k ≤ 8388608) :
    Calls Try.prog 40 #[.int .i64 k] w fun e w' => e = .returned (.string (markS k)) ∧ Below w.heap.size w w' := by
  have cv := conv1
  have hk0 : ¬ (k : Int) ≤ 0 := by omega
  obtain ⟨L, hL⟩ : ∃ L, L = decTo 20 k [] := ⟨_, rfl⟩
  have HM := Lib.hid (show markS k = strOfNums (109 :: L) by rw [hL]; rfl)
  go_enter Try.func40, Try.ntmps40
  go_wp2
  go_loopw [0, 3] (fun j s wr => ∃ (m f : Nat) (acc : List Int), j = .int .i64 m ∧ m ≤ 8388608 ∧ s = .string (strOfNums acc) ∧ acc.length ≤ 20 - f ∧ f ≤ 20 ∧ m < 10 ^ f ∧ decTo f m acc = L ∧ Below w.heap.size w wr) (fun j _ _ => (intOf j).toNat)
  case atStart => exact ⟨k, 20, [], rfl, h2, rfl, by simp, by omega, by omega, hL.symm, Below.refl _ _⟩
  case round =>
    obtain ⟨m, f, acc, rfl, hm, rfl, hal, hf, hmf, hd, hb⟩ := hrel
    have HD := Lib.hid hd
    have HB := Lib.hid hb
    have HF := Lib.hid hmf
    clear hd hb hmf hL hk0
    by_cases h0 : m = 0
    · have HE := Lib.hid (show strOfNums acc = strOfNums L by rw [← HD.out, h0, decTo_zero])
      have hs : (strOfNums acc).size ≤ 20 := by rw [strOfNums_size]; omega
      subst h0
      rw [HE.out] at hs ⊢
      go_wp2
      go_ret
      exact ⟨by rw [HM.out, show (109 : Int) :: L = [109] ++ L from rfl, ← strs_add]; rfl, HB.out⟩
    · have hm1 : (0 : Int) < (m : Int) := by omega
      have hs : (strOfNums acc).size ≤ 20 := by rw [strOfNums_size]; omega
      have h1s : (strOfNums [48 + (m : Int) % 10]).size = 1 := by rw [strOfNums_size]; rfl
      have hsum : (strOfNums [48 + (m : Int) % 10]).size + (strOfNums acc).size ≤ 9223372036854775807 := by omega
      go_wp2
      obtain ⟨g, rfl⟩ : ∃ g, f = g + 1 := by
        cases f with
        | zero => exfalso; have := HF.out; simp at this; omega
        | succ g => exact ⟨g, rfl⟩
      refine ⟨⟨m / 10, g, (48 + (m : Int) % 10) :: acc, by rw [Int.natCast_ediv]; rfl, by omega, by rw [strs_add]; rfl, by simp only [List.length_cons]; omega, by omega, ?_, ?_, ?_⟩, ?_⟩
      · have := HF.out; rw [Nat.pow_succ] at this; omega
      · rw [← HD.out]; conv => rhs; unfold decTo
        rw [if_neg h0]
      · exact HB.out.alloc HB.out.size _
      · simp only [intOf]; omega
end Go.Proofs.Ytjplmmokbkkclaa.MarkT
/- Rows of texts that a law marks and looks at.
   Conditions: stated at each theorem. -/
namespace Go.Proofs.Ytjplmmokbkkclaa.MarkStrs
open Go.RowKit Mem Copy Rel Strs MarkT MarkRow

set_option maxHeartbeats 1000000 in
theorem markStrs (v : Value) (n : Nat) (f : Nat → Value) (k : Nat) (lo : Nat) (w : World) (hr : Row w lo 9 v n f) (hn : n ≤ 1048576) (h1 : 1 ≤ k) (hk : k ≤ 1048576) :
    Calls Try.prog 15 #[v, .int .i64 k] w fun e w' => e = .returned (.int .i64 ((k + n : Nat) : Int)) ∧ Row w' lo 9 v n (fun i => .string (markS (k + i))) ∧ w.grownBy w' v.ownBlock := by
  obtain ⟨a, cap, rfl, hr⟩ := hr
  by_cases h0 : n = 0
  · subst h0
    clear hr
    go_enter Try.func15, Try.ntmps15
    go_wp2
    refine wp_loop_rounds 1 ?_
    rw [rounds_succ]
    go_wp2
    go_ret
    exact ⟨rfl, ⟨_, _, rfl, fun h => absurd h (Nat.lt_irrefl 0)⟩, grown_refl _ _⟩
  · obtain ⟨g, m, F, rfl, hlo, hnm, hrow, -⟩ := hr (by omega)
    have hg0 : g < w.heap.size := hrow.lt
    go_enter Try.func15, Try.ntmps15
    go_wp2
    go_loopw [1, 5] (fun kk i wr => ∃ j : Nat, j ≤ n ∧ i = .int .i64 j ∧ kk = .int .i64 ((k + j : Nat) : Int) ∧ wr.rowIs g 9 m (fun i => if i < j then .string (markS (k + i)) else F i) ∧ w.grownBy wr (some g)) (fun _ i _ => n - (intOf i).toNat)
    case atStart => exact ⟨0, Nat.zero_le _, rfl, rfl, hrow.congr fun i hi => by rw [if_neg (Nat.not_lt_zero i)], grown_refl _ _⟩
    case round =>
      obtain ⟨j, hj, rfl, rfl, hrw, hgr⟩ := hrel
      have HR := Lib.hid hrw
      have HG := Lib.hid hgr
      by_cases hlt : j < n
      · have cN0 := hrw.cell (show j < m by omega)
        have fN0 := hrw.frozen j
        have hlg := hrw.lt
        rw [if_neg (Nat.lt_irrefl j)] at cN0
        obtain ⟨x, hx⟩ : ∃ x, x = F j := ⟨_, rfl⟩
        rw [← hx] at cN0
        have HMT := Lib.hid (markText (k + j) wr (by omega) (by omega))
        clear hrw hgr hr hrow hx
        go_wp2_with fail
        refine HMT.out.mono ?_
        rintro e w1 ⟨rfl, hb⟩
        have cN := (hb.cell (p := ⟨g, j, none⟩) hlg).trans cN0
        have fN := (hb.frozen (p := ⟨g, j, none⟩) hlg).trans fN0
        have HB := Lib.hid hb
        clear hb cN0 fN0 HMT
        go_wp2
        go_roundw
        case rel =>
          refine ⟨j + 1, hlt, by go_num, by go_num, ((rowIs_below HR.out HB.out hlg).set j _).congr fun i hi => ?_, grown_set (grown_below HG.out HB.out) _ _⟩
          by_cases e : i = j
          · subst e; simp
          · have h1 : (i < j + 1) = (i < j) := by apply propext; constructor <;> intro h <;> omega
            simp only [if_neg e, h1]
        case measure => simp [intOf]; omega
      · obtain rfl : j = n := by omega
        clear hrw hgr hr hrow
        go_wp2
        go_ret
        exact ⟨rfl, ⟨_, _, rfl, fun _ => ⟨g, m, _, rfl, hlo, hnm, HR.out, fun i hi => if_pos hi⟩⟩, HG.out⟩

set_option maxHeartbeats 1000000 in
theorem heldStrs (v : Value) (n : Nat) (k : Nat) (B : Nat) (w : World) (hr : Sl w B v n (fun i => .string (markS (k + i)))) (hB : B ≤ w.heap.size) (hn : n ≤ 1048576) (h1 : 1 ≤ k) (hk : k ≤ 1048576) :
    Calls Try.prog 16 #[v, .int .i64 k] w fun e w' => e = .returned (.int .i64 ((k + n : Nat) : Int)) ∧ Below w.heap.size w w' := by
  obtain ⟨a, b, off, cap, rfl, -, ha, hc⟩ := hr
  go_enter Try.func16, Try.ntmps16
  go_wp2
  go_loopw [1, 5] (fun kk i wr => ∃ j : Nat, j ≤ n ∧ i = .int .i64 j ∧ kk = .int .i64 ((k + j : Nat) : Int) ∧ Below w.heap.size w wr) (fun _ i _ => n - (intOf i).toNat)
  case atStart => exact ⟨0, Nat.zero_le _, rfl, rfl, Below.refl _ _⟩
  case round =>
    obtain ⟨j, hj, rfl, rfl, hbel⟩ := hrel
    have HB := Lib.hid hbel
    by_cases hlt : j < n
    · obtain rfl := (ha (by omega)).1
      have hbB := (ha (by omega)).2
      have cA := (hbel.cell (p := ⟨b, off + j, none⟩) (by show b < _; omega)).trans (hc j hlt)
      obtain ⟨s, hs⟩ : ∃ s, s = markS (k + j) := ⟨_, rfl⟩
      have HMT := Lib.hid (fun W => markText (k + j) W (by omega) (by omega))
      rw [← hs] at cA HMT
      have hself : (s.toList == s.toList) = true := by simp
      have hlb : b < wr.heap.size := by have := hbel.size; omega
      clear hc ha hs hbel
      go_wp2_with fail
      go_region_with (go_at_call 40; refine (HMT.out _).mono ?_; rintro e w1 ⟨rfl, hb⟩; have HB1 := Lib.hid (base_step HB.out.drew hb); have cN := (hb.cell (p := ⟨b, off + j, none⟩) hlb).trans cA; clear hb)
      all_goals
        go_wp2
        go_roundw
        case rel => exact ⟨j + 1, hlt, by go_num, by go_num, HB1.out⟩
        case measure => simp [intOf]; omega
    · obtain rfl : j = n := by omega
      clear hc ha hbel
      go_wp2
      go_ret
      exact ⟨rfl, HB.out⟩
end Go.Proofs.Ytjplmmokbkkclaa.MarkStrs
/- Plain facts on lists of bytes: which of them are made of the letters a and b alone.
   Conditions: none. -/
namespace Go.Proofs.Ytjplmmokbkkclaa.WordMath
set_option linter.unusedVariables false
set_option linter.unusedSimpArgs false

def letter (c : UInt8) : Bool := c == 97 || c == 98
def good (l : List UInt8) : Bool := l.all letter
def wordB (s : ByteArray) : Bool := good s.data.toList && decide (s.size ≤ 40)

theorem good_snoc (l : List UInt8) (c : UInt8) : good (l ++ [c]) = (good l && letter c) := by
  simp [good]

theorem take_snoc (s : ByteArray) (k : Nat) (h : k < s.size) : s.data.toList.take (k + 1) = s.data.toList.take k ++ [s[k]] := by
  rw [List.take_succ_eq_append_getElem (by simpa using h)]; rfl

theorem letter_a (c : UInt8) (h : (c.toNat : Int) = 97) : letter c = true := by
  have : c = 97 := UInt8.toNat_inj.1 (by simpa using (by omega : c.toNat = 97))
  subst this; rfl

theorem letter_b (c : UInt8) (h : (c.toNat : Int) = 98) : letter c = true := by
  have : c = 98 := UInt8.toNat_inj.1 (by simpa using (by omega : c.toNat = 98))
  subst this; rfl

theorem letter_no (c : UInt8) (h : ¬ (c.toNat : Int) = 97) (h2 : ¬ (c.toNat : Int) = 98) : letter c = false := by
  unfold letter
  rw [Bool.or_eq_false_iff]
  constructor
  · rw [beq_eq_false_iff_ne]; intro e; subst e; exact h rfl
  · rw [beq_eq_false_iff_ne]; intro e; subst e; exact h2 rfl

theorem letter_or (c : UInt8) (h : letter c = true) : (c.toNat : Int) = 97 ∨ (c.toNat : Int) = 98 := by
  by_cases h1 : (c.toNat : Int) = 97
  · exact .inl h1
  · by_cases h2 : (c.toNat : Int) = 98
    · exact .inr h2
    · rw [letter_no c h1 h2] at h; cases h

theorem good_yes (s : ByteArray) (k : Nat) (h : k < s.size) (g : good (s.data.toList.take k) = true) (hc : letter s[k] = true) :
    good (s.data.toList.take (k + 1)) = true := by
  rw [take_snoc s k h, good_snoc, g, hc]; rfl

theorem good_no (s : ByteArray) (k : Nat) (h : k < s.size) (hc : letter s[k] = false) : good s.data.toList = false := by
  have e : s.data.toList = s.data.toList.take (k + 1) ++ s.data.toList.drop (k + 1) := (List.take_append_drop _ _).symm
  have g : good (s.data.toList.take (k + 1)) = false := by rw [take_snoc s k h, good_snoc, hc]; simp
  rw [e]; unfold good at *; rw [List.all_append, g]; rfl

theorem good_all (s : ByteArray) (g : good (s.data.toList.take s.size) = true) : good s.data.toList = true := by
  rwa [List.take_of_length_le (by simp)] at g

theorem word_no (s : ByteArray) (k : Nat) (h : k < s.size) (hc : letter s[k] = false) : wordB s = false := by
  unfold wordB; rw [good_no s k h hc]; rfl

theorem word_long (s : ByteArray) (h : 40 < s.size) : wordB s = false := by
  unfold wordB; rw [decide_eq_false (by omega)]; simp

theorem word_end (s : ByteArray) (g : good (s.data.toList.take s.size) = true) : wordB s = decide (s.size ≤ 40) := by
  unfold wordB; rw [good_all s g]; rfl

end Go.Proofs.Ytjplmmokbkkclaa.WordMath
