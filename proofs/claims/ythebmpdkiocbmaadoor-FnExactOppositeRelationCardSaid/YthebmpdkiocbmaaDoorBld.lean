
/- A relation that a function puts together, list by list, beside lists of numbers of its own.
   Conditions: stated at each theorem. -/
import Derived.Test.YthebmpdkiocbmaaDoorHeap
import Derived.Test.YthebmpdkiocbmaaDoorRel
namespace Go.Proofs.YthebmpdkiocbmaaDoor.Bld
set_option linter.unusedVariables false
set_option linter.unusedSimpArgs false
open Go.RowKit Mem Copy Rel Heap

theorem Own.perm {w : World} {B : Nat} {t : TypeId} {l m : List (Value × List Value)} (h : Own w B t l) (hp : l.Perm m) : Own w B t m :=
  ⟨fun p hm => h.lst p (hp.mem_iff.2 hm), (hp.pairwise_iff (fun {a b} => own_symm)).1 h.apart⟩

theorem cells_get {w : World} {b : Nat} {c : Array Value} {t : TypeId} {r : Nat × Nat} (h : w.heap[b]? = some (.cells c t r)) (i : Nat) : w.cell? ⟨b, i, none⟩ = c[i]? := by simp [World.cell?, h]
theorem cells_free {w : World} {b : Nat} {c : Array Value} {t : TypeId} (h : w.heap[b]? = some (.cells c t (0, 0))) (i : Nat) : w.frozen? ⟨b, i, none⟩ = false := by simp [World.frozen?, h]
theorem cells_set {w : World} {b : Nat} {c : Array Value} {t : TypeId} {r : Nat × Nat} (h : w.heap[b]? = some (.cells c t r)) (i : Nat) (u : Value) : (w.setCell ⟨b, i, none⟩ u).heap[b]? = some (.cells (c.setIfInBounds i u) t r) := by
  have hlt := lt_of_block h
  have h' : w.heap[b] = .cells c t r := by simpa [Array.getElem?_eq_getElem hlt] using h
  show (w.heap.modify b _)[b]? = _
  rw [Array.getElem?_eq_getElem (by simpa using hlt), Array.getElem_modify_self, h']
  rfl

/-- The struct in block ob holds the lists va and vn; items are the rows that vn has; ints are lists beside. -/
structure Bld (w : World) (B ob : Nat) (tapes start : Int) (va vn : Value) (ints items : List (Value × List Value)) (accs : List Value) : Prop where
  own : Own w B 2 (ints ++ items)
  acc : Lst w B 4 va accs
  nxt : Lst w B 34 vn (items.map Prod.fst)
  at_ : w.heap[ob]? = some (.cells #[.int .i64 tapes, .int .i64 start, va, vn] 27 (0, 0))
  obB : B ≤ ob

variable {w w' : World} {B ob : Nat} {tapes start : Int} {va vn : Value} {ints items : List (Value × List Value)} {accs : List Value}

theorem Bld.below (h : Bld w B ob tapes start va vn ints items accs) (hb : Below w.heap.size w w') : Bld w' B ob tapes start va vn ints items accs :=
  ⟨h.own.below hb, h.acc.below hb, h.nxt.below hb, by rw [hb.block ob (lt_of_block h.at_)]; exact h.at_, h.obB⟩
theorem Bld.drew (h : Bld w B ob tapes start va vn ints items accs) : Bld w.drew B ob tapes start va vn ints items accs := ⟨h.own.drew, h.acc, h.nxt, h.at_, h.obB⟩
theorem Bld.drewN (h : Bld w B ob tapes start va vn ints items accs) (m : Nat) : Bld (w.drewN m) B ob tapes start va vn ints items accs := ⟨h.own.drewN m, h.acc, h.nxt, h.at_, h.obB⟩
theorem Bld.alloc (h : Bld w B ob tapes start va vn ints items accs) (o : Obj) : Bld (w.alloc o) B ob tapes start va vn ints items accs := h.below ((Below.refl _ _).alloc (Nat.le_refl _) _)
theorem Bld.lt (h : Bld w B ob tapes start va vn ints items accs) : ob < w.heap.size := lt_of_block h.at_
theorem Bld.c2 (h : Bld w B ob tapes start va vn ints items accs) : w.cell? ⟨ob, 2, none⟩ = some va := by rw [cells_get h.at_]; rfl
theorem Bld.c3 (h : Bld w B ob tapes start va vn ints items accs) : w.cell? ⟨ob, 3, none⟩ = some vn := by rw [cells_get h.at_]; rfl

theorem Bld.pushInt (l1 l2 : List (Value × List Value)) {v v' : Value} {xs : List Value} {u : Value} (h : Bld w B ob tapes start va vn (l1 ++ (v, xs) :: l2) items accs) (hp : Pushed w w' B 2 v v' xs u) :
    Bld w' B ob tapes start va vn (l1 ++ (v', xs ++ [u]) :: l2) items accs := by
  have ho : Own w B 2 (l1 ++ (v, xs) :: (l2 ++ items)) := by have := h.own; rw [List.append_assoc] at this; exact this
  have hv := Own.get l1 (l2 ++ items) ho
  refine ⟨?_, h.acc.grown hp.grow fun k hk => hv.apart h.acc (by decide) k hk, h.nxt.grown hp.grow fun k hk => hv.apart h.nxt (by decide) k hk, ?_, h.obB⟩
  · rw [List.append_assoc]; exact Own.push l1 (l2 ++ items) ho hp
  · rw [hp.grow.block ob h.lt fun e => block_apart hv h.at_ (by decide) e.symm]; exact h.at_
theorem Bld.setInt (l1 l2 : List (Value × List Value)) {g n cap : Nat} {xs : List Value} (h : Bld w B ob tapes start va vn (l1 ++ (.slice (some ⟨g, 0, none⟩) n cap, xs) :: l2) items accs) {i : Nat} (hi : i < xs.length) (u : Value) :
    Bld (w.setCell ⟨g, i, none⟩ u) B ob tapes start va vn (l1 ++ (.slice (some ⟨g, 0, none⟩) n cap, xs.set i u) :: l2) items accs := by
  have ho : Own w B 2 (l1 ++ (.slice (some ⟨g, 0, none⟩) n cap, xs) :: (l2 ++ items)) := by have := h.own; rw [List.append_assoc] at this; exact this
  have hv := Own.get l1 (l2 ++ items) ho
  refine ⟨?_, h.acc.setOther (hv.apart h.acc (by decide) g rfl) u, h.nxt.setOther (hv.apart h.nxt (by decide) g rfl) u, ?_, h.obB⟩
  · rw [List.append_assoc]; exact Own.set l1 (l2 ++ items) ho hi u
  · rw [Below.heap_setCell _ _ _ _ (fun e => block_apart hv h.at_ (by decide) (by show some g = some ob; rw [e]))]; exact h.at_
/-- A list that is new. -/
theorem Bld.addInt (h : Bld w B ob tapes start va vn ints items accs) (hb : Below w.heap.size w w') {v : Value} {xs : List Value} (hl : Lst w' B 2 v xs) (hn : ∀ k, v.ownBlock = some k → w.heap.size ≤ k) :
    Bld w' B ob tapes start va vn ((v, xs) :: ints) items accs :=
  ⟨h.own.addNew hb hl hn, h.acc.below hb, h.nxt.below hb, by rw [hb.block ob h.lt]; exact h.at_, h.obB⟩
theorem Bld.perm {ints' : List (Value × List Value)} (h : Bld w B ob tapes start va vn ints items accs) (hp : ints.Perm ints') : Bld w B ob tapes start va vn ints' items accs :=
  ⟨Own.perm h.own (hp.append_right items), h.acc, h.nxt, h.at_, h.obB⟩

/-- out.Accept = append(out.Accept, u). -/
theorem Bld.pushAcc {va' : Value} {u : Value} (h : Bld w B ob tapes start va vn ints items accs) (hp : Pushed w w' B 4 va va' accs u) :
    Bld (w'.setCell ⟨ob, 2, none⟩ va') B ob tapes start va' vn ints items (accs ++ [u]) := by
  have hob : w'.heap[ob]? = some (.cells #[.int .i64 tapes, .int .i64 start, va, vn] 27 (0, 0)) := by
    rw [hp.grow.block ob h.lt fun e => block_apart h.acc h.at_ (by decide) e.symm]; exact h.at_
  have ho : Own w' B 2 (ints ++ items) := h.own.grown hp.grow fun k hk p hm => h.acc.apart (h.own.lst p hm) (by decide) k hk
  have hn : Lst w' B 34 vn (items.map Prod.fst) := h.nxt.grown hp.grow fun k hk => h.acc.apart h.nxt (by decide) k hk
  exact ⟨ho.setOther (a := ⟨ob, 2, none⟩) hob (by decide) _, hp.lst.setOther (block_apart hp.lst hob (by decide)) _, hn.setOther (block_apart hn hob (by decide)) _, cells_set hob 2 va', h.obB⟩
theorem Bld.obAcc {va' : Value} {u : Value} (h : Bld w B ob tapes start va vn ints items accs) (hp : Pushed w w' B 4 va va' accs u) : w'.heap[ob]? = some (.cells #[.int .i64 tapes, .int .i64 start, va, vn] 27 (0, 0)) := by
  rw [hp.grow.block ob h.lt fun e => block_apart h.acc h.at_ (by decide) e.symm]; exact h.at_
theorem Bld.obNext {vn' v : Value} (h : Bld w B ob tapes start va vn ints items accs) (hp : Pushed w w' B 34 vn vn' (items.map Prod.fst) v) : w'.heap[ob]? = some (.cells #[.int .i64 tapes, .int .i64 start, va, vn] 27 (0, 0)) := by
  rw [hp.grow.block ob h.lt fun e => block_apart h.nxt h.at_ (by decide) e.symm]; exact h.at_
/-- out.Next = append(out.Next, row). -/
theorem Bld.pushNext (l1 l2 : List (Value × List Value)) {vn' v : Value} {xs : List Value} (h : Bld w B ob tapes start va vn (l1 ++ (v, xs) :: l2) items accs) (hp : Pushed w w' B 34 vn vn' (items.map Prod.fst) v) :
    Bld (w'.setCell ⟨ob, 3, none⟩ vn') B ob tapes start va vn' (l1 ++ l2) (items ++ [(v, xs)]) accs := by
  have hob : w'.heap[ob]? = some (.cells #[.int .i64 tapes, .int .i64 start, va, vn] 27 (0, 0)) := by
    rw [hp.grow.block ob h.lt fun e => block_apart h.nxt h.at_ (by decide) e.symm]; exact h.at_
  have ho : Own w' B 2 (l1 ++ (v, xs) :: l2 ++ items) := h.own.grown hp.grow fun k hk p hm => h.nxt.apart (h.own.lst p hm) (by decide) k hk
  have ha : Lst w' B 4 va accs := h.acc.grown hp.grow fun k hk => h.nxt.apart h.acc (by decide) k hk
  refine ⟨Own.perm (ho.setOther (a := ⟨ob, 3, none⟩) hob (by decide) _) ?_, ha.setOther (block_apart ha hob (by decide)) _, ?_, cells_set hob 3 vn', h.obB⟩
  · have h1 : (l1 ++ (v, xs) :: l2 ++ items).Perm ((v, xs) :: (l1 ++ l2 ++ items)) := by
      rw [List.append_assoc, List.append_assoc]
      exact List.perm_middle
    have h2 : ((v, xs) :: (l1 ++ l2 ++ items)).Perm (l1 ++ l2 ++ (items ++ [(v, xs)])) := by
      rw [← List.append_assoc]
      exact (List.perm_append_singleton _ _).symm
    exact h1.trans h2
  · rw [List.map_append]
    exact hp.lst.setOther (block_apart hp.lst hob (by decide)) _

/-- A store into a row that lies in the list of rows already. -/
theorem Bld.setItem {g n cap : Nat} {xs : List Value} (h : Bld w B ob tapes start va vn ints items accs) {j : Nat} (hj : j < items.length) (he : items[j] = (.slice (some ⟨g, 0, none⟩) n cap, xs)) {i : Nat} (hi : i < xs.length) (u : Value) :
    Bld (w.setCell ⟨g, i, none⟩ u) B ob tapes start va vn ints (items.set j (.slice (some ⟨g, 0, none⟩) n cap, xs.set i u)) accs := by
  have e1 : items = items.take j ++ (.slice (some ⟨g, 0, none⟩) n cap, xs) :: items.drop (j + 1) := by
    rw [← he, List.getElem_cons_drop, List.take_append_drop]
  have e2 : items.set j (.slice (some ⟨g, 0, none⟩) n cap, xs.set i u) = items.take j ++ (.slice (some ⟨g, 0, none⟩) n cap, xs.set i u) :: items.drop (j + 1) := List.set_eq_take_append_cons_drop .. |>.trans (if_pos hj)
  have e3 : (items.set j (.slice (some ⟨g, 0, none⟩) n cap, xs.set i u)).map Prod.fst = items.map Prod.fst := by
    rw [e2]; conv => rhs; rw [e1]
    simp
  have ho : Own w B 2 ((ints ++ items.take j) ++ (.slice (some ⟨g, 0, none⟩) n cap, xs) :: items.drop (j + 1)) := by
    have := h.own; rw [e1] at this; rw [List.append_assoc]; exact this
  have hv := Own.get (ints ++ items.take j) (items.drop (j + 1)) ho
  refine ⟨?_, h.acc.setOther (hv.apart h.acc (by decide) g rfl) u, ?_, ?_, h.obB⟩
  · rw [e2, ← List.append_assoc]; exact Own.set _ _ ho hi u
  · rw [e3]; exact h.nxt.setOther (hv.apart h.nxt (by decide) g rfl) u
  · rw [Below.heap_setCell _ _ _ _ (fun e => block_apart hv h.at_ (by decide) (by show some g = some ob; rw [e]))]; exact h.at_
theorem Bld.item (h : Bld w B ob tapes start va vn ints items accs) {j : Nat} (hj : j < items.length) : Lst w B 2 items[j].1 items[j].2 := h.own.lst items[j] (List.mem_append_right _ (List.getElem_mem hj))
/-- What is built in the end: lists in memory of their own. -/
structure Built (w : World) (B : Nat) (va vn : Value) (acc : List Bool) (nx : List (List Int)) : Prop where
  acc : Lst w B 4 va (acc.map Value.bool)
  rows : ∃ items : List (Value × List Value), Own w B 2 items ∧ Lst w B 34 vn (items.map Prod.fst) ∧ items.map Prod.snd = nx.map fun r => r.map (Value.int .i64)

theorem Built.of_bld {acc : List Bool} {nx : List (List Int)} (h : Bld w B ob tapes start va vn ints items accs) (ha : accs = acc.map Value.bool) (hn : items.map Prod.snd = nx.map fun r => r.map (Value.int .i64)) : Built w B va vn acc nx :=
  ⟨by have := h.acc; rwa [ha] at this, items, ⟨fun p hp => h.own.lst p (List.mem_append_right _ hp), (List.pairwise_append.1 h.own.apart).2.1⟩, h.nxt, hn⟩
theorem Built.setLow {acc : List Bool} {nx : List (List Int)} (h : Built w B va vn acc nx) {a : Addr} (ha : a.block < B) (u : Value) : Built (w.setCell a u) B va vn acc nx := by
  obtain ⟨items, h1, h2, h3⟩ := h.rows
  refine ⟨h.acc.setOther (fun e => by have := h.acc.ge e; omega) u, items, ⟨fun p hp => (h1.lst p hp).setOther (fun e => by have := (h1.lst p hp).ge e; omega) u, h1.apart⟩, h2.setOther (fun e => by have := h2.ge e; omega) u, h3⟩
theorem Built.below {acc : List Bool} {nx : List (List Int)} (h : Built w B va vn acc nx) (hb : Below w.heap.size w w') : Built w' B va vn acc nx := by
  obtain ⟨items, h1, h2, h3⟩ := h.rows
  exact ⟨h.acc.below hb, items, h1.below hb, h2.below hb, h3⟩
theorem Built.drewN {acc : List Bool} {nx : List (List Int)} (h : Built w B va vn acc nx) (m : Nat) : Built (w.drewN m) B va vn acc nx := by
  obtain ⟨items, h1, h2, h3⟩ := h.rows
  exact ⟨h.acc, items, h1.drewN m, h2, h3⟩
theorem Built.mono {C : Nat} {acc : List Bool} {nx : List (List Int)} (h : Built w B va vn acc nx) (hC : C ≤ B) : Built w C va vn acc nx := by
  obtain ⟨items, h1, h2, h3⟩ := h.rows
  exact ⟨h.acc.mono hC, items, ⟨fun p hp => (h1.lst p hp).mono hC, h1.apart⟩, h2.mono hC, h3⟩

theorem lst_ints {v : Value} {xs : List Int} (h : Lst w B 2 v (xs.map (Value.int .i64))) (C : Nat) (hC : w.heap.size ≤ C) : Ints w C v xs := by
  have h1 := h.reads C hC (.int .i64 0)
  rw [List.length_map] at h1
  exact h1.congr fun i hi => by simp [List.getD, hi]
theorem lst_bools {v : Value} {xs : List Bool} (h : Lst w B 4 v (xs.map Value.bool)) (C : Nat) (hC : w.heap.size ≤ C) : Bools w C v xs := by
  have h1 := h.reads C hC (.bool false)
  rw [List.length_map] at h1
  exact h1.congr fun i hi => by simp [List.getD, hi]
/-- What is built reads as the relation. -/
theorem Built.reads {acc : List Bool} {nx : List (List Int)} (h : Built w B va vn acc nx) (C : Nat) (hC : w.heap.size ≤ C) (tapes start : Int) : RelAt w C (.agg #[.int .i64 tapes, .int .i64 start, va, vn]) ⟨tapes, start, acc, nx⟩ := by
  obtain ⟨items, h1, h2, h3⟩ := h.rows
  refine ⟨va, vn, rfl, lst_bools h.acc C hC, fun i => (items.map Prod.fst).getD i (.int .i64 0), ?_, fun i hi => ?_⟩
  · have h4 := h2.reads C hC (.int .i64 0)
    have e : (items.map Prod.fst).length = nx.length := by
      have := congrArg List.length h3
      simpa using this
    rw [e] at h4
    exact h4
  · have hil : i < items.length := by
      have := congrArg List.length h3
      simp at this
      show i < _
      rw [this]; exact hi
    have hl := h1.lst items[i] (List.getElem_mem hil)
    have e1 : (items.map Prod.fst).getD i (.int .i64 0) = items[i].1 := by simp [List.getD, hil]
    have e2 : items[i].2 = (nx.getD i []).map (Value.int .i64) := by
      have h5 := congrArg (fun x => x[i]?) h3
      simp [hil, hi] at h5
      rw [h5]
      simp [List.getD, hi]
    show Ints w C ((items.map Prod.fst).getD i (.int .i64 0)) (nx.getD i [])
    rw [e1]
    rw [e2] at hl
    exact lst_ints hl C hC
end Go.Proofs.YthebmpdkiocbmaaDoor.Bld
