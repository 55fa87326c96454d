
/- The model's walk that finds the first list of columns: plain facts, and the lists that it keeps.
   Conditions: stated at each theorem. -/
import Derived.Test.YtpnlocnbcdgamaaFirstI
namespace Go.Proofs.Ytpnlocnbcdgamaa.FirstK
set_option linter.unusedVariables false
set_option linter.unusedSimpArgs false
set_option linter.ambiguousOpen false
set_option linter.unusedSectionVars false
set_option maxRecDepth 100000
open Go.RowKit Mem Copy Rel Valid Heap Columns Bld TidyMath TidyClass TidyAuto TidyRight SpecFiner SpecRight First FirstTidy Go.Proofs.Ytpnlocnbcdgamaa.Steps FirstI

/-! What is met, for any automaton. -/
section
variable (d : Nat × Nat → Nat → Nat × Nat) (k : Nat) (s0 : Nat × Nat)
def sg (i j : Nat) : (Nat × Nat) × List Nat := (First.seen d k s0 i).getD j (s0, [])
variable {d k s0} {i : Nat}
theorem sg_get {j : Nat} (h : j < (First.seen d k s0 i).length) : sg d k s0 i j = (First.seen d k s0 i)[j] := by
  unfold sg; rw [List.getD_eq_getElem?_getD, List.getElem?_eq_getElem h, Option.getD_some]
theorem keepG {f : Nat × Nat → Bool} (hi : i < (First.seen d k s0 i).length) (hn : ∀ j, j < i → f (sg d k s0 i j).1 = false) (h : f (sg d k s0 i i).1 = false) : ∀ j, j < i + 1 → f (sg d k s0 (i + 1) j).1 = false := by
  intro j hj
  have hp : First.seen d k s0 i <+: First.seen d k s0 (i + 1) := bfs_step _ _ _ i
  have hjl : j < (First.seen d k s0 i).length := by omega
  have e : sg d k s0 (i + 1) j = sg d k s0 i j := by rw [sg_get hjl, sg_get (Nat.lt_of_lt_of_le hjl hp.length_le), prefix_get hp hjl]
  rw [e]
  by_cases hji : j < i
  · exact hn j hji
  · obtain rfl : j = i := by omega
    exact h
theorem pthG (hi : i < (First.seen d k s0 i).length) : pth (First.seen d k s0 i) i = (sg d k s0 i i).2 := by
  unfold pth
  rw [List.getD_eq_getElem?_getD, List.getElem?_eq_getElem hi, Option.getD_some, sg_get hi]
theorem midG {c : Nat} (hi : i < (First.seen d k s0 i).length) : pth (First.mid d k s0 i c) i = (sg d k s0 i i).2 ∧ ∃ h : i < (First.mid d k s0 i c).length, (First.mid d k s0 i c)[i].1 = (sg d k s0 i i).1 := by
  have hp : First.seen d k s0 i <+: First.mid d k s0 i c := part_from _ _ _ i c
  have h1 := Nat.lt_of_lt_of_le hi hp.length_le
  refine ⟨?_, h1, ?_⟩
  · unfold pth
    rw [List.getD_eq_getElem?_getD, List.getElem?_eq_getElem h1, Option.getD_some, prefix_get hp hi, sg_get hi]
  · rw [prefix_get hp hi, sg_get hi]
theorem stepG {P : List Q} {c : Nat} {ab : Nat × Nat} (hp : Par k P (First.mid d k s0 i c)) (hi : i < (First.seen d k s0 i).length) (hc : c < k) (hab : ab = d (sg d k s0 i i).1 c) :
    Par k (TidyMath.meet kq P ⟨ab.1, ab.2, i, c⟩) (First.mid d k s0 i (c + 1)) := by
  obtain ⟨h1, h2, -⟩ := midG (c := c) hi
  have hl := hp.len
  have h3 := hp.meet (by omega) (i := i) (c := c) (a := ab.1) (b := ab.2) (by omega) hc
  rw [h1] at h3
  rw [mid_step d k s0 hi hc, ← sg_get hi, ← hab]
  exact h3
end
/-- States beside an idle number. -/
def stX (x : L) (s : Nat × Nat) (c : Nat) : Nat × Nat := (stL x s.1 c, 0)
theorem runX (x : L) (p : List Nat) : ∀ s, run (stX x) (s, 0) p = (run (stL x) s p, 0) := by
  induction p with
  | nil => exact fun s => rfl
  | cons c r ih => exact fun s => ih _
def accX (x : L) (s : Nat × Nat) : Bool := x.acc.getD s.1 false
/-- The first list that an automaton takes. -/
noncomputable def firstX (x : L) : Option (List Nat) :=
  open Classical in if h : ∃ u, First.Lst (wide x.k) (fun p => x.acc.getD (run (stL x) x.start p) false = true) u then some h.choose else none
theorem firstX_some {x : L} {u : List Nat} (h : First.Lst (wide x.k) (fun p => x.acc.getD (run (stL x) x.start p) false = true) u) : firstX x = some u := by
  unfold firstX
  have hex : ∃ u, First.Lst (wide x.k) (fun p => x.acc.getD (run (stL x) x.start p) false = true) u := ⟨u, h⟩
  rw [dif_pos hex, hex.choose_spec.unique h]
theorem firstX_none {x : L} (h : ∀ p, Low (wide x.k) p → ¬ x.acc.getD (run (stL x) x.start p) false = true) : firstX x = none := by
  unfold firstX
  rw [dif_neg]
  rintro ⟨u, hu⟩
  exact h u hu.low hu.ok
theorem firstX_congr {x : L} {g : Bool → Bool → Bool} {l m : L} (hk : x.k = l.k) (h : ∀ p, Low (wide l.k) p → x.acc.getD (run (stL x) x.start p) false = g (Tk l p) (Tk m p)) : firstX x = firstPP g l m := by
  by_cases hex : ∃ u, First.Lst (wide l.k) (fun p => g (Tk l p) (Tk m p) = true) u
  · obtain ⟨u, hu⟩ := hex
    rw [firstPP_some hu]
    refine firstX_some ?_
    rw [hk]
    exact First.Lst.congr (fun p hp => by rw [h p hp]) hu
  · rw [firstPP, dif_neg hex, firstX, dif_neg]
    rintro ⟨u, hu⟩
    rw [hk] at hu
    exact hex ⟨u, First.Lst.congr (fun p hp => by rw [h p hp]) hu⟩
section
variable {x : L} {i : Nat}
theorem seenX_lt (hx : x.Ok) (i : Nat) : ∀ y ∈ First.seen (stX x) (wide x.k) (x.start, 0) i, y.1.1 < x.acc.length ∧ y.1.2 = 0 := by
  refine bfs_all Prod.fst (nxt (stX x) (wide x.k)) ((x.start, 0), []) (fun y => y.1.1 < x.acc.length ∧ y.1.2 = 0) ⟨hx.st, rfl⟩ (fun y hy z hz => ?_) i
  unfold nxt at hz
  obtain ⟨c, hc, e⟩ := List.mem_map.1 hz
  rw [List.mem_range] at hc
  have e' := Option.some.inj e
  subst e'
  exact ⟨hx.lt _ hy.1 c hc, rfl⟩
theorem seenX_len (hx : x.Ok) (i : Nat) : (First.seen (stX x) (wide x.k) (x.start, 0) i).length ≤ x.acc.length := by
  refine dist_few Prod.fst (bfs_dist _ _ _ i) (fun y => y.1.1) _ (fun y hy z hz e => ?_) (fun y hy => (seenX_lt hx i y hy).1)
  exact Prod.ext e (by rw [(seenX_lt hx i y hy).2, (seenX_lt hx i z hz).2])
theorem midX_len (hx : x.Ok) {c : Nat} (hi : i < (First.seen (stX x) (wide x.k) (x.start, 0) i).length) (hc : c ≤ wide x.k) : (First.mid (stX x) (wide x.k) (x.start, 0) i c).length ≤ x.acc.length := by
  have h1 : First.mid (stX x) (wide x.k) (x.start, 0) i c <+: First.seen (stX x) (wide x.k) (x.start, 0) (i + 1) := by
    rw [← mid_all (stX x) (wide x.k) (x.start, 0) hi]
    unfold First.mid
    rw [part_eq _ _ _ hi, part_eq _ _ _ hi]
    exact row_take_prefix _ _ _ hc
  exact Nat.le_trans h1.length_le (seenX_len hx (i + 1))
theorem doneX_some (hx : x.Ok) (hi : i < (First.seen (stX x) (wide x.k) (x.start, 0) i).length) (hn : ∀ j, j < i → accX x (sg (stX x) (wide x.k) (x.start, 0) i j).1 = false) (h : accX x (sg (stX x) (wide x.k) (x.start, 0) i i).1 = true) :
    firstX x = some (sg (stX x) (wide x.k) (x.start, 0) i i).2 ∧ Low (wide x.k) (sg (stX x) (wide x.k) (x.start, 0) i i).2 := by
  rw [sg_get hi] at h ⊢
  have h1 := first_some (stX x) (wide x.k) (x.start, 0) (accX x) hi (fun j hj => by rw [← sg_get (by omega)]; exact hn j hj) h
  have h2 := First.Lst.congr (fun p hp => by show accX x (run (stX x) (x.start, 0) p) = true ↔ x.acc.getD (run (stL x) x.start p) false = true; rw [runX]; rfl) h1
  exact ⟨firstX_some h2, h2.low⟩
theorem doneX_none (hi : (First.seen (stX x) (wide x.k) (x.start, 0) i).length ≤ i) (hn : ∀ j, j < i → accX x (sg (stX x) (wide x.k) (x.start, 0) i j).1 = false) : firstX x = none := by
  have h1 := first_none (stX x) (wide x.k) (x.start, 0) (accX x) hi (fun j hj => by rw [← sg_get hj]; exact hn j (by omega))
  refine firstX_none fun p hp hg => h1 p hp ?_
  rw [runX]
  exact hg
end

/-! The lists that are kept. -/
def lv (P : List Q) : List Value := P.map fun q => .int .i64 (q.l : Nat)
def cv (P : List Q) : List Value := P.map fun q => .int .i64 (q.c : Nat)
def fAt (P : List Q) (j : Nat) : Int := if j = 0 then -1 else ((P.getD j q0).f : Nat)
def fv (P : List Q) : List Value := (List.range P.length).map fun j => .int .i64 (fAt P j)
theorem lv_push (P : List Q) (q : Q) : lv (P ++ [q]) = lv P ++ [.int .i64 (q.l : Nat)] := by simp [lv]
theorem cv_push (P : List Q) (q : Q) : cv (P ++ [q]) = cv P ++ [.int .i64 (q.c : Nat)] := by simp [cv]
theorem fv_push (P : List Q) (q : Q) (hp : 0 < P.length) : fv (P ++ [q]) = fv P ++ [.int .i64 (q.f : Nat)] := by
  unfold fv
  rw [List.length_append, show P.length + [q].length = P.length + 1 from rfl, List.range_succ, List.map_append]
  congr 1
  · refine List.map_congr_left fun j hj => ?_
    rw [List.mem_range] at hj
    unfold fAt
    rw [List.getD_eq_getElem?_getD, List.getD_eq_getElem?_getD, List.getElem?_append_left hj]
  · unfold fAt
    rw [List.map_singleton, if_neg (by omega), List.getD_eq_getElem?_getD, List.getElem?_append_right (Nat.le_refl _)]
    simp
theorem lv_get (P : List Q) {i : Nat} (h : i < (lv P).length) : (lv P)[i] = .int .i64 ((P[i]'(by simpa [lv] using h)).l : Nat) := by simp [lv]
theorem cv_get (P : List Q) {i : Nat} (h : i < (cv P).length) : (cv P)[i] = .int .i64 ((P[i]'(by simpa [cv] using h)).c : Nat) := by simp [cv]
theorem fv_get (P : List Q) {i : Nat} (h : i < (fv P).length) : (fv P)[i] = .int .i64 (fAt P i) := by simp [fv]
theorem lv_len (P : List Q) : (lv P).length = P.length := by simp [lv]
theorem cv_len (P : List Q) : (cv P).length = P.length := by simp [cv]
theorem fv_len (P : List Q) : (fv P).length = P.length := by simp [fv]

structure FG (w : World) (B : Nat) (vs vl vf vb : Value) (S L F C : List Value) : Prop where
  own : Heap.Own w B 2 [(vl, L), (vb, C)]
  frm : Heap.Lst w B 3 vf F
  seen : Heap.Lst w B 4 vs S
section
variable {w w' : World} {B : Nat} {vs vl vf vb : Value} {S L F C : List Value}
theorem FG.list (h : FG w B vs vl vf vb S L F C) : Heap.Lst w B 2 vl L := Own.get [] _ h.own
theorem FG.cols (h : FG w B vs vl vf vb S L F C) : Heap.Lst w B 2 vb C := Own.get [(vl, L)] [] h.own
theorem FG.below (h : FG w B vs vl vf vb S L F C) (hb : Below w.heap.size w w') : FG w' B vs vl vf vb S L F C := ⟨h.own.below hb, h.frm.below hb, h.seen.below hb⟩
theorem FG.drewN (h : FG w B vs vl vf vb S L F C) (m : Nat) : FG (w.drewN m) B vs vl vf vb S L F C := h.below (below_drewN (Below.refl _ _) m)
theorem FG.setS {g n cap : Nat} (h : FG w B (.slice (some ⟨g, 0, none⟩) n cap) vl vf vb S L F C) {i : Nat} (hi : i < S.length) (u : Value) : FG (w.setCell ⟨g, i, none⟩ u) B (.slice (some ⟨g, 0, none⟩) n cap) vl vf vb (S.set i u) L F C := by
  obtain ⟨cur, hcur⟩ := ImplRight.lst_block h.seen
  exact ⟨h.own.setOther (a := ⟨g, i, none⟩) hcur (by decide) u, h.frm.setOther (block_apart h.frm hcur (by decide)) u, h.seen.set hi u⟩
theorem FG.pushL {vl' u : Value} (h : FG w B vs vl vf vb S L F C) (hp : Pushed w w' B 2 vl vl' L u) : FG w' B vs vl' vf vb S (L ++ [u]) F C :=
  ⟨Own.push [] [(vb, C)] h.own hp, h.frm.grown hp.grow fun k hk => h.list.apart h.frm (by decide) k hk, h.seen.grown hp.grow fun k hk => h.list.apart h.seen (by decide) k hk⟩
theorem FG.pushC {vb' u : Value} (h : FG w B vs vl vf vb S L F C) (hp : Pushed w w' B 2 vb vb' C u) : FG w' B vs vl vf vb' S L F (C ++ [u]) :=
  ⟨Own.push [(vl, L)] [] h.own hp, h.frm.grown hp.grow fun k hk => h.cols.apart h.frm (by decide) k hk, h.seen.grown hp.grow fun k hk => h.cols.apart h.seen (by decide) k hk⟩
theorem FG.pushF {vf' u : Value} (h : FG w B vs vl vf vb S L F C) (hp : Pushed w w' B 3 vf vf' F u) : FG w' B vs vl vf' vb S L (F ++ [u]) C :=
  ⟨h.own.grown hp.grow fun k hk p hm => h.frm.apart (h.own.lst p hm) (by decide) k hk, hp.lst, h.seen.grown hp.grow fun k hk => h.frm.apart h.seen (by decide) k hk⟩
end
theorem infoInt : (Try.prog.info? 3).map (fun i => (i.zero, i.size, i.bytes)) = some (some (.int .i64 0), 1, 8) := by kernel_rfl
end Go.Proofs.Ytpnlocnbcdgamaa.FirstK
