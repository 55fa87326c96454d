
/- The model's walk that finds the first list of columns: plain facts, and the lists that it keeps.
   Conditions: stated at each theorem. -/
import Derived.Test.YtaebeglcoghehaaCN13
import Derived.Test.YtaebeglcoghehaaCN4
import Derived.BigQuiet
import Derived.Deep.QuietTactic
namespace Go.Proofs.Ytaebeglcoghehaa.FirstK
set_option linter.unusedVariables false
set_option linter.unusedSimpArgs false
set_option linter.ambiguousOpen false
set_option linter.unusedSectionVars false
set_option maxRecDepth 100000
open Go.RowKit Mem Copy Rel Valid Heap Columns Bld TidyMath TidyClass TidyAuto TidyRight SpecFiner SpecRight First FirstTidy Go.Proofs.Ytaebeglcoghehaa.Steps FirstI

/-! What is met, for any automaton. -/
section
variable (d : Nat × Nat → Nat → Nat × Nat) (k : Nat) (s0 : Nat × Nat)
def sg (i j : Nat) : (Nat × Nat) × List Nat := (First.seen d k s0 i).getD j (s0, [])
variable {d k s0} {i : Nat}
theorem sg_get {j : Nat} (h : j < (First.seen d k s0 i).length) : sg d k s0 i j = (First.seen d k s0 i)[j] := by
  unfold sg; rw [List.getD_eq_getElem?_getD, List.getElem?_eq_getElem h, Option.getD_some]
theorem keepG {f : Nat × Nat → Bool} (hi : i < (First.seen d k s0 i).length) (hn : ∀ j, j < i → f (sg d k s0 i j).1 = false) (h : f (sg d k s0 i i).1 = false) : ∀ j, j < i + 1 → f (sg d k s0 (i + 1) j).1 = false := by
  intro j hj
  have hp : First.seen d k s0 i <+: First.seen d k s0 (i + 1) := bfs_step _ _ _ i
  have hjl : j < (First.seen d k s0 i).length := by omega
  have e : sg d k s0 (i + 1) j = sg d k s0 i j := by rw [sg_get hjl, sg_get (Nat.lt_of_lt_of_le hjl hp.length_le), prefix_get hp hjl]
  rw [e]
  by_cases hji : j < i
  · exact hn j hji
  · obtain rfl : j = i := by omega
    exact h
theorem pthG (hi : i < (First.seen d k s0 i).length) : pth (First.seen d k s0 i) i = (sg d k s0 i i).2 := by
  unfold pth
  rw [List.getD_eq_getElem?_getD, List.getElem?_eq_getElem hi, Option.getD_some, sg_get hi]
theorem midG {c : Nat} (hi : i < (First.seen d k s0 i).length) : pth (First.mid d k s0 i c) i = (sg d k s0 i i).2 ∧ ∃ h : i < (First.mid d k s0 i c).length, (First.mid d k s0 i c)[i].1 = (sg d k s0 i i).1 := by
  have hp : First.seen d k s0 i <+: First.mid d k s0 i c := part_from _ _ _ i c
  have h1 := Nat.lt_of_lt_of_le hi hp.length_le
  refine ⟨?_, h1, ?_⟩
  · unfold pth
    rw [List.getD_eq_getElem?_getD, List.getElem?_eq_getElem h1, Option.getD_some, prefix_get hp hi, sg_get hi]
  · rw [prefix_get hp hi, sg_get hi]
theorem stepG {P : List Q} {c : Nat} {ab : Nat × Nat} (hp : Par k P (First.mid d k s0 i c)) (hi : i < (First.seen d k s0 i).length) (hc : c < k) (hab : ab = d (sg d k s0 i i).1 c) :
    Par k (TidyMath.meet kq P ⟨ab.1, ab.2, i, c⟩) (First.mid d k s0 i (c + 1)) := by
  obtain ⟨h1, h2, -⟩ := midG (c := c) hi
  have hl := hp.len
  have h3 := hp.meet (by omega) (i := i) (c := c) (a := ab.1) (b := ab.2) (by omega) hc
  rw [h1] at h3
  rw [mid_step d k s0 hi hc, ← sg_get hi, ← hab]
  exact h3
end
/-- States beside an idle number. -/
def stX (x : L) (s : Nat × Nat) (c : Nat) : Nat × Nat := (stL x s.1 c, 0)
theorem runX (x : L) (p : List Nat) : ∀ s, run (stX x) (s, 0) p = (run (stL x) s p, 0) := by
  induction p with
  | nil => exact fun s => rfl
  | cons c r ih => exact fun s => ih _
def accX (x : L) (s : Nat × Nat) : Bool := x.acc.getD s.1 false
/-- The first list that an automaton takes. -/
noncomputable def firstX (x : L) : Option (List Nat) :=
  open Classical in if h : ∃ u, First.Lst (wide x.k) (fun p => x.acc.getD (run (stL x) x.start p) false = true) u then some h.choose else none
theorem firstX_some {x : L} {u : List Nat} (h : First.Lst (wide x.k) (fun p => x.acc.getD (run (stL x) x.start p) false = true) u) : firstX x = some u := by
  unfold firstX
  have hex : ∃ u, First.Lst (wide x.k) (fun p => x.acc.getD (run (stL x) x.start p) false = true) u := ⟨u, h⟩
  rw [dif_pos hex, hex.choose_spec.unique h]
theorem firstX_none {x : L} (h : ∀ p, Low (wide x.k) p → ¬ x.acc.getD (run (stL x) x.start p) false = true) : firstX x = none := by
  unfold firstX
  rw [dif_neg]
  rintro ⟨u, hu⟩
  exact h u hu.low hu.ok
theorem firstX_congr {x : L} {g : Bool → Bool → Bool} {l m : L} (hk : x.k = l.k) (h : ∀ p, Low (wide l.k) p → x.acc.getD (run (stL x) x.start p) false = g (Tk l p) (Tk m p)) : firstX x = firstPP g l m := by
  by_cases hex : ∃ u, First.Lst (wide l.k) (fun p => g (Tk l p) (Tk m p) = true) u
  · obtain ⟨u, hu⟩ := hex
    rw [firstPP_some hu]
    refine firstX_some ?_
    rw [hk]
    exact First.Lst.congr (fun p hp => by rw [h p hp]) hu
  · rw [firstPP, dif_neg hex, firstX, dif_neg]
    rintro ⟨u, hu⟩
    rw [hk] at hu
    exact hex ⟨u, First.Lst.congr (fun p hp => by rw [h p hp]) hu⟩
section
variable {x : L} {i : Nat}
theorem seenX_lt (hx : x.Ok) (i : Nat) : ∀ y ∈ First.seen (stX x) (wide x.k) (x.start, 0) i, y.1.1 < x.acc.length ∧ y.1.2 = 0 := by
  refine bfs_all Prod.fst (nxt (stX x) (wide x.k)) ((x.start, 0), []) (fun y => y.1.1 < x.acc.length ∧ y.1.2 = 0) ⟨hx.st, rfl⟩ (fun y hy z hz => ?_) i
  unfold nxt at hz
  obtain ⟨c, hc, e⟩ := List.mem_map.1 hz
  rw [List.mem_range] at hc
  have e' := Option.some.inj e
  subst e'
  exact ⟨hx.lt _ hy.1 c hc, rfl⟩
theorem seenX_len (hx : x.Ok) (i : Nat) : (First.seen (stX x) (wide x.k) (x.start, 0) i).length ≤ x.acc.length := by
  refine dist_few Prod.fst (bfs_dist _ _ _ i) (fun y => y.1.1) _ (fun y hy z hz e => ?_) (fun y hy => (seenX_lt hx i y hy).1)
  exact Prod.ext e (by rw [(seenX_lt hx i y hy).2, (seenX_lt hx i z hz).2])
theorem midX_len (hx : x.Ok) {c : Nat} (hi : i < (First.seen (stX x) (wide x.k) (x.start, 0) i).length) (hc : c ≤ wide x.k) : (First.mid (stX x) (wide x.k) (x.start, 0) i c).length ≤ x.acc.length := by
  have h1 : First.mid (stX x) (wide x.k) (x.start, 0) i c <+: First.seen (stX x) (wide x.k) (x.start, 0) (i + 1) := by
    rw [← mid_all (stX x) (wide x.k) (x.start, 0) hi]
    unfold First.mid
    rw [part_eq _ _ _ hi, part_eq _ _ _ hi]
    exact row_take_prefix _ _ _ hc
  exact Nat.le_trans h1.length_le (seenX_len hx (i + 1))
theorem doneX_some (hx : x.Ok) (hi : i < (First.seen (stX x) (wide x.k) (x.start, 0) i).length) (hn : ∀ j, j < i → accX x (sg (stX x) (wide x.k) (x.start, 0) i j).1 = false) (h : accX x (sg (stX x) (wide x.k) (x.start, 0) i i).1 = true) :
    firstX x = some (sg (stX x) (wide x.k) (x.start, 0) i i).2 ∧ Low (wide x.k) (sg (stX x) (wide x.k) (x.start, 0) i i).2 := by
  rw [sg_get hi] at h ⊢
  have h1 := first_some (stX x) (wide x.k) (x.start, 0) (accX x) hi (fun j hj => by rw [← sg_get (by omega)]; exact hn j hj) h
  have h2 := First.Lst.congr (fun p hp => by show accX x (run (stX x) (x.start, 0) p) = true ↔ x.acc.getD (run (stL x) x.start p) false = true; rw [runX]; rfl) h1
  exact ⟨firstX_some h2, h2.low⟩
theorem doneX_none (hi : (First.seen (stX x) (wide x.k) (x.start, 0) i).length ≤ i) (hn : ∀ j, j < i → accX x (sg (stX x) (wide x.k) (x.start, 0) i j).1 = false) : firstX x = none := by
  have h1 := first_none (stX x) (wide x.k) (x.start, 0) (accX x) hi (fun j hj => by rw [← sg_get hj]; exact hn j (by omega))
  refine firstX_none fun p hp hg => h1 p hp ?_
  rw [runX]
  exact hg
end

/-! The lists that are kept. -/
def lv (P : List Q) : List Value := P.map fun q => .int .i64 (q.l : Nat)
def cv (P : List Q) : List Value := P.map fun q => .int .i64 (q.c : Nat)
def fAt (P : List Q) (j : Nat) : Int := if j = 0 then -1 else ((P.getD j q0).f : Nat)
def fv (P : List Q) : List Value := (List.range P.length).map fun j => .int .i64 (fAt P j)
theorem lv_push (P : List Q) (q : Q) : lv (P ++ [q]) = lv P ++ [.int .i64 (q.l : Nat)] := by simp [lv]
theorem cv_push (P : List Q) (q : Q) : cv (P ++ [q]) = cv P ++ [.int .i64 (q.c : Nat)] := by simp [cv]
theorem fv_push (P : List Q) (q : Q) (hp : 0 < P.length) : fv (P ++ [q]) = fv P ++ [.int .i64 (q.f : Nat)] := by
  unfold fv
  rw [List.length_append, show P.length + [q].length = P.length + 1 from rfl, List.range_succ, List.map_append]
  congr 1
  · refine List.map_congr_left fun j hj => ?_
    rw [List.mem_range] at hj
    unfold fAt
    rw [List.getD_eq_getElem?_getD, List.getD_eq_getElem?_getD, List.getElem?_append_left hj]
  · unfold fAt
    rw [List.map_singleton, if_neg (by omega), List.getD_eq_getElem?_getD, List.getElem?_append_right (Nat.le_refl _)]
    simp
theorem lv_get (P : List Q) {i : Nat} (h : i < (lv P).length) : (lv P)[i] = .int .i64 ((P[i]'(by simpa [lv] using h)).l : Nat) := by simp [lv]
theorem cv_get (P : List Q) {i : Nat} (h : i < (cv P).length) : (cv P)[i] = .int .i64 ((P[i]'(by simpa [cv] using h)).c : Nat) := by simp [cv]
theorem fv_get (P : List Q) {i : Nat} (h : i < (fv P).length) : (fv P)[i] = .int .i64 (fAt P i) := by simp [fv]
theorem lv_len (P : List Q) : (lv P).length = P.length := by simp [lv]
theorem cv_len (P : List Q) : (cv P).length = P.length := by simp [cv]
theorem fv_len (P : List Q) : (fv P).length = P.length := by simp [fv]

structure FG (w : World) (B : Nat) (vs vl vf vb : Value) (S L F C : List Value) : Prop where
  own : Heap.Own w B 2 [(vl, L), (vb, C)]
  frm : Heap.Lst w B 3 vf F
  seen : Heap.Lst w B 4 vs S
section
variable {w w' : World} {B : Nat} {vs vl vf vb : Value} {S L F C : List Value}
theorem FG.list (h : FG w B vs vl vf vb S L F C) : Heap.Lst w B 2 vl L := Own.get [] _ h.own
theorem FG.cols (h : FG w B vs vl vf vb S L F C) : Heap.Lst w B 2 vb C := Own.get [(vl, L)] [] h.own
theorem FG.below (h : FG w B vs vl vf vb S L F C) (hb : Below w.heap.size w w') : FG w' B vs vl vf vb S L F C := ⟨h.own.below hb, h.frm.below hb, h.seen.below hb⟩
theorem FG.drewN (h : FG w B vs vl vf vb S L F C) (m : Nat) : FG (w.drewN m) B vs vl vf vb S L F C := h.below (below_drewN (Below.refl _ _) m)
theorem FG.setS {g n cap : Nat} (h : FG w B (.slice (some ⟨g, 0, none⟩) n cap) vl vf vb S L F C) {i : Nat} (hi : i < S.length) (u : Value) : FG (w.setCell ⟨g, i, none⟩ u) B (.slice (some ⟨g, 0, none⟩) n cap) vl vf vb (S.set i u) L F C := by
  obtain ⟨cur, hcur⟩ := ImplRight.lst_block h.seen
  exact ⟨h.own.setOther (a := ⟨g, i, none⟩) hcur (by decide) u, h.frm.setOther (block_apart h.frm hcur (by decide)) u, h.seen.set hi u⟩
theorem FG.pushL {vl' u : Value} (h : FG w B vs vl vf vb S L F C) (hp : Pushed w w' B 2 vl vl' L u) : FG w' B vs vl' vf vb S (L ++ [u]) F C :=
  ⟨Own.push [] [(vb, C)] h.own hp, h.frm.grown hp.grow fun k hk => h.list.apart h.frm (by decide) k hk, h.seen.grown hp.grow fun k hk => h.list.apart h.seen (by decide) k hk⟩
theorem FG.pushC {vb' u : Value} (h : FG w B vs vl vf vb S L F C) (hp : Pushed w w' B 2 vb vb' C u) : FG w' B vs vl vf vb' S L F (C ++ [u]) :=
  ⟨Own.push [(vl, L)] [] h.own hp, h.frm.grown hp.grow fun k hk => h.cols.apart h.frm (by decide) k hk, h.seen.grown hp.grow fun k hk => h.cols.apart h.seen (by decide) k hk⟩
theorem FG.pushF {vf' u : Value} (h : FG w B vs vl vf vb S L F C) (hp : Pushed w w' B 3 vf vf' F u) : FG w' B vs vl vf' vb S L (F ++ [u]) C :=
  ⟨h.own.grown hp.grow fun k hk p hm => h.frm.apart (h.own.lst p hm) (by decide) k hk, hp.lst, h.seen.grown hp.grow fun k hk => h.frm.apart h.seen (by decide) k hk⟩
end
theorem infoInt : (Try.prog.info? 3).map (fun i => (i.zero, i.size, i.bytes)) = some (some (.int .i64 0), 1, 8) := by kernel_rfl
end Go.Proofs.Ytaebeglcoghehaa.FirstK
/- What is appended: a list that is another's.
   Conditions: stated at each theorem. -/
namespace Go.Proofs.Ytaebeglcoghehaa.Push
set_option linter.unusedVariables false
set_option linter.unusedSimpArgs false
open Go.RowKit Mem Copy Heap

theorem tv_snoc (c : Nat) (T : Nat → Int) : tv c T ++ [Value.int .i64 (T c)] = tv (c + 1) T := by unfold tv; rw [List.range_succ, List.map_append]; rfl
/-- The law for appending a list that is another's. -/
theorem wpList_pushs {P : Program} {w : World} {ops : Array Oper} {rest : List Oper} {o : Oper} {a : Act} {Q : Exit → Act → World → Prop} (hgd : o.guard = none) (s x : Operand) (t : TypeId)
    (ho : o.op = .call { callee := .builtin .append, args := #[s, x], argTypes := #[t, t] })
    (e : TypeId) (z : Value) (bytes : Nat) (ht : P.underlying t = some (.slice e)) (hinfo : (P.info? e).map (fun i => (i.zero, i.size, i.bytes)) = some (some z, 1, bytes)) (hzs : z.cells.size = 1) (hby : bytes ≤ 24)
    (B : Nat) (v : Value) (xs : List Value) (hown : Lst w B e v xs) (hB : B ≤ w.heap.size) (news : List Value) (h1 : ∀ u ∈ news, u.oneCell' = true) (hlen : xs.length + news.length ≤ 100000000) (hs : a.eval s = v) (ad : Addr) (m c : Nat) (hx : a.eval x = .slice (some ad) m c) (hm : news.length = m)
    (hnews : ∀ j u, news[j]? = some u → w.cell? (ad.add j) = some u)
    (h : ∀ v' w', Lst w' B e v' (xs ++ news) → w.grownBy w' v.ownBlock → wpList P ops Q rest (a.put o.dst v') w') : wpList P ops Q (o :: rest) a w := by
  obtain ⟨i, hi, hz, hsize, hbytes⟩ := info_parts hinfo
  refine wpList_append_own_at (P := P) _ hgd s x t ho B e i z 1 bytes ht hi hz hsize hbytes hzs (by decide) v xs.length xs hs hown ad m c news hx (by rw [hm, Nat.mul_one]) hnews h1 (by unfold maxLen; omega) ?_ hB ?_
  · have : (xs.length + m) * bytes ≤ 100000000 * 24 := Nat.mul_le_mul (by omega) hby
    omega
  · intro v' w' hown' hg _ _
    refine h v' w' ?_ hg
    unfold Lst
    rw [List.length_append, hm]
    exact hown'

end Go.Proofs.Ytaebeglcoghehaa.Push
/- What the model's function that finds the first list of columns of an automaton hands back.
   Conditions: stated at each theorem. -/
namespace Go.Proofs.Ytaebeglcoghehaa.FirstS
set_option linter.unusedVariables false
set_option linter.unusedSimpArgs false
set_option linter.ambiguousOpen false
set_option maxRecDepth 100000
open Go.RowKit Mem Copy Rel Valid Heap Columns Bld TidyMath TidyClass TidyAuto TidyRight SpecFiner SpecRight First FirstTidy Go.Proofs.Ytaebeglcoghehaa.Steps FirstI FirstK

/-- What is handed back. -/
def AnsX (x : L) (w : World) (e : Ending) (w' : World) : Prop :=
  (∃ vc c, firstX x = some c ∧ Low (wide x.k) c ∧ e = .returned (.tuple #[vc, .bool true]) ∧ Heap.Lst w' w.heap.size 2 vc (iv c) ∧ Below w.heap.size w w') ∨
    (firstX x = none ∧ ∃ a c, e = .returned (.tuple #[.slice a 0 c, .bool false]) ∧ Below w.heap.size w w')

theorem iv_len (R : List Nat) : (iv R).length = R.length := by simp [iv]
theorem rev_next (R : List Nat) {t : Nat} (h : t < R.length) : R.reverse.take (t + 1) = R.reverse.take t ++ [R.getD (R.length - 1 - t) 0] := by
  rw [List.take_succ_eq_append_getElem (by rw [List.length_reverse]; exact h), List.getElem_reverse]
  simp [List.getD, show R.length - 1 - t < R.length by omega]

/-- What is read of the automaton. -/
structure XAt (w0 : World) (bp : Nat) (x : L) (ba oa ca bn on cn : Nat) : Prop where
  c1 : ∀ W, Below w0.heap.size w0 W → W.cell? ⟨bp, 1, none⟩ = some (.int .i64 (x.start : Nat))
  c2 : ∀ W, Below w0.heap.size w0 W → W.cell? ⟨bp, 2, none⟩ = some (.slice (some ⟨ba, oa, none⟩) x.acc.length ca)
  c3 : ∀ W, Below w0.heap.size w0 W → W.cell? ⟨bp, 3, none⟩ = some (.slice (some ⟨bn, on, none⟩) x.acc.length cn)
  acc : ∀ W, Below w0.heap.size w0 W → ∀ s, s < x.acc.length → W.cell? ⟨ba, oa + s, none⟩ = some (.bool (x.acc.getD s false))
  row : ∀ s, s < x.acc.length → ∃ b o c, b < w0.heap.size ∧ ∀ W, Below w0.heap.size w0 W → W.cell? ⟨bn, on + s, none⟩ = some (.slice (some ⟨b, o, none⟩) (wide x.k) c) ∧ ∀ j, j < wide x.k → W.cell? ⟨b, o + j, none⟩ = some (.int .i64 ((stL x s j : Nat) : Int))
  lt : bp < w0.heap.size ∧ ba < w0.heap.size ∧ bn < w0.heap.size
theorem xat {x : L} (hx : x.Ok) {bp : Nat} {w : World} {B : Nat} (h : RelPtr w B bp (relOf x)) (hB : B ≤ w.heap.size) (hbp : bp < w.heap.size) : ∃ ba oa ca bn on cn, XAt w bp x ba oa ca bn on cn := by
  obtain ⟨va, vn, h0, h1, h2, h3, ha, hn⟩ := h
  have hpos : 0 < x.acc.length := Nat.lt_of_le_of_lt (Nat.zero_le _) hx.st
  obtain ⟨aa, ba, oa, ca, rfl, hma, haa, hca⟩ := ha
  obtain ⟨rfl, hba⟩ := haa hpos
  obtain ⟨V, ⟨ab, bn, on, cn, rfl, hmb, hab, hcb⟩, hrows⟩ := hn
  have hnl : (relOf x).next.length = x.acc.length := by show (x.nx.map ofN).length = _; rw [List.length_map, hx.len]
  rw [hnl] at hmb hab hcb hrows h3
  obtain ⟨rfl, hbn⟩ := hab hpos
  refine ⟨ba, oa, ca, bn, on, cn, fun W hb => ?_, fun W hb => ?_, fun W hb => ?_, fun W hb s hs => ?_, fun s hs => ?_, hbp, by omega, by omega⟩
  · rw [hb.cell (p := ⟨bp, 1, none⟩) hbp]; exact h1
  · rw [hb.cell (p := ⟨bp, 2, none⟩) hbp]; exact h2
  · rw [hb.cell (p := ⟨bp, 3, none⟩) hbp]; exact h3
  · rw [hb.cell (p := ⟨ba, oa + s, none⟩) (by show ba < _; omega)]; exact hca s hs
  · obtain ⟨a8, b8, o8, c8, e8, -, haa8, hca8⟩ := hrows s hs
    have hw : 0 < wide x.k := by have := wide_cases hx.k0 hx.k3; omega
    have hsl : s < x.nx.length := by rw [hx.len]; exact hs
    have er : (relOf x).next.getD s [] = ofN (x.nx.getD s []) := by
      show (x.nx.map ofN).getD s [] = _
      simp [List.getD, hsl]
    have hr := hx.row s hs
    rw [er, ofN_length, hr] at e8 haa8 hca8
    obtain ⟨rfl, hb8⟩ := haa8 hw
    refine ⟨b8, o8, c8, by omega, fun W hb => ⟨?_, fun j hj => ?_⟩⟩
    · rw [hb.cell (p := ⟨bn, on + s, none⟩) (by show bn < _; omega), hcb s hs, e8]
    · rw [hb.cell (p := ⟨b8, o8 + j, none⟩) (by show b8 < _; omega), hca8 j hj]
      show some (Value.int .i64 ((ofN (x.nx.getD s [])).getD j 0)) = _
      rw [SpecFiner.ofN_get _ (by rw [hr]; exact hj)]
      rfl

set_option maxHeartbeats 8000000 in
theorem first (x : L) (hx : x.Ok) (bp : Nat) (w : World) (B : Nat) (h : RelPtr w B bp (relOf x)) (hB : B ≤ w.heap.size) (hbp : bp < w.heap.size) (hn : x.acc.length ≤ 10000000) :
    Calls Try.prog 110 #[.pointer (some ⟨bp, 0, none⟩)] w (AnsX x w) := by
  obtain ⟨ba, oa, ca, bn, on, cn, hX⟩ := xat hx h hB hbp
  have HX := Lib.hid hX
  have HOK := Lib.hid hx
  have hst := hx.st
  have hw26 : wide x.k ≤ 26 := by have := wide_cases hx.k0 hx.k3; omega
  have hwp : 0 < wide x.k := by have := wide_cases hx.k0 hx.k3; omega
  obtain ⟨l1, l2, l3⟩ := hX.lt
  have x1 := hX.c1 w (Below.refl _ _)
  have x2 := hX.c2 w (Below.refl _ _)
  have HRW := Lib.hid hX.row
  have HAC := Lib.hid hX.acc
  have HC2 := Lib.hid hX.c2
  have HC3 := Lib.hid hX.c3
  have HC1S := Lib.hid hX.c1
  have HSL := Lib.hid (fun i => seenX_len hx i)
  have HML := Lib.hid (fun i c h1 h2 => midX_len hx (i := i) (c := c) h1 h2)
  have HSLT := Lib.hid (fun i => seenX_lt hx i)
  have HLT := Lib.hid hx.lt
  obtain ⟨n, hnn⟩ : ∃ n, n = x.acc.length := ⟨_, rfl⟩
  obtain ⟨st, hss⟩ : ∃ s, s = x.start := ⟨_, rfl⟩
  obtain ⟨wd, hwd⟩ : ∃ k, k = wide x.k := ⟨_, rfl⟩
  rw [← hnn] at hn hst x2 HRW HAC HC2 HC3 HSL HML HSLT HLT
  rw [← hss] at hst x1 HSL HML HSLT HC1S
  rw [← hwd] at HRW hw26 hwp
  have HNN := Lib.hid hnn
  have HST := Lib.hid hss
  have HWD := Lib.hid hwd
  have hmk := run_make_row' (P := Try.prog) 22 4 (.bool false) 1 Try.underlying22 info4 rfl .i64 .i64 n (by omega) (by omega)
  clear hnn hss hwd h hB hbp hX hx
  obtain ⟨M, hM⟩ : ∃ M, M = w.heap.size := ⟨_, rfl⟩
  have HMM := Lib.hid hM
  have HS0 := Lib.hid (show Heap.Lst (w.alloc (.cells (madeCells #[Value.bool false] n) 4)) M 4 (.slice (some ⟨M, 0, none⟩) n n) (tb n fun _ => false) from by
    have h1 := (Heap.Lst.made w M 4 (.bool false) n (by omega) (by unfold maxLen; omega))
    rw [tb_rep, ← hM] at h1
    exact h1)
  have HW0 := Lib.hid (show (w.alloc (.cells (madeCells #[Value.bool false] n) 4)).heap.size = M + 1 by rw [size_alloc', hM])
  have HB00 := Lib.hid (show Below M w (w.alloc (.cells (madeCells #[Value.bool false] n) 4)) from Below.alloc (Below.refl _ _) (by omega) _)
  clear hM
  go_enter Try.func110, Try.ntmps110
  go_upto_region 2 with fail
  rw [← HMM.out]
  generalize w.alloc (.cells (madeCells #[Value.bool false] n) 4) = w0 at HS0 HW0 HB00 ⊢
  have x1 : w0.cell? ⟨bp, 1, none⟩ = some (.int .i64 (st : Nat)) := (HB00.out.cell (p := ⟨bp, 1, none⟩) (by show bp < M; have := HMM.out; omega)).trans x1
  have cs := HS0.out.cellOf (i := st) (by rw [tb_length]; exact hst)
  rw [tb_get] at cs
  have fs := HS0.out.free st
  have hbM : bp ≠ M := by have := HMM.out; omega
  have hls : M < w0.heap.size := by have := HW0.out; omega
  have hlb : bp < w0.heap.size := by have := HW0.out; have := HMM.out; omega
  have HS1 := Lib.hid (show Heap.Lst (w0.setCell ⟨M, st, none⟩ (.bool true)) M 4 (.slice (some ⟨M, 0, none⟩) n n) (tb n (metB 1 [⟨st, 0, 0, 0⟩])) from by
    have h1 := HS0.out.set (i := st) (by rw [tb_length]; exact hst) (.bool true)
    rw [tb_set, tb_congr (S := metB 1 [⟨st, 0, 0, 0⟩]) (fun i _ => by
      have h := metB_push (m := 1) (P := []) (q := ⟨st, 0, 0, 0⟩) (Nat.one_pos) (by simp) i
      rw [List.nil_append, metB_nil] at h
      rw [h]
      unfold Go.Proofs.Ytaebeglcoghehaa.Steps.code
      simp)] at h1
    exact h1)
  have HW1 := Lib.hid (show (w0.setCell ⟨M, st, none⟩ (.bool true)).heap.size = M + 1 by have := HW0.out; simp [World.setCell]; omega)
  have HB1 := Lib.hid (show Below M w (w0.setCell ⟨M, st, none⟩ (.bool true)) from HB00.out.setCell (by show M ≤ M; omega) _)
  go_upto_region 3 with fail
  generalize w0.setCell ⟨M, st, none⟩ (.bool true) = w1 at HS1 HW1 HB1 ⊢
  clear x1 cs fs hls hlb HS0 HW0 HB00
  have HS0 := HS1
  have x1 : w1.cell? ⟨bp, 1, none⟩ = some (.int .i64 (st : Nat)) := by have := HC1S.out w1 (by rw [← HMM.out]; exact HB1.out); exact this
  have hl1 : bp < w1.heap.size := by have := HW1.out; have := HMM.out; omega
  have HF0 := Lib.hid (show FG (((w1.alloc (.cells #[.int .i64 (st : Nat)] 2)).alloc (.cells #[.int .i64 (-1)] 3)).alloc (.cells #[.int .i64 0] 2)) M (.slice (some ⟨M, 0, none⟩) n n) (.slice (some ⟨w1.heap.size, 0, none⟩) 1 1) (.slice (some ⟨w1.heap.size + 1, 0, none⟩) 1 1) (.slice (some ⟨w1.heap.size + 1 + 1, 0, none⟩) 1 1) (tb n (metB 1 [⟨st, 0, 0, 0⟩])) (lv [⟨st, 0, 0, 0⟩]) (fv [⟨st, 0, 0, 0⟩]) (cv [⟨st, 0, 0, 0⟩]) from by
    have s1 := HW1.out
    have h2 := Heap.Lst.one w1 M 2 (.int .i64 (st : Nat)) (by omega)
    have h3 := Heap.Lst.one (w1.alloc (.cells #[.int .i64 (st : Nat)] 2)) M 3 (.int .i64 (-1)) (by rw [size_alloc']; omega)
    rw [size_alloc'] at h3
    have h4 := Heap.Lst.one ((w1.alloc (.cells #[.int .i64 (st : Nat)] 2)).alloc (.cells #[.int .i64 (-1)] 3)) M 2 (.int .i64 0) (by rw [size_alloc', size_alloc']; omega)
    rw [size_alloc', size_alloc'] at h4
    refine ⟨⟨fun p hp => ?_, ?_⟩, (h3.alloc _), ((HS0.out.alloc _).alloc _).alloc _⟩
    · simp only [List.mem_cons, List.not_mem_nil, or_false] at hp
      rcases hp with rfl | rfl
      · exact (h2.alloc _).alloc _
      · exact h4
    · refine List.Pairwise.cons (fun q hq => ?_) (List.Pairwise.cons (fun q hq => by cases hq) List.Pairwise.nil)
      rw [List.mem_singleton] at hq
      subst hq
      intro k hk e
      have e1 : w1.heap.size = k := Option.some.inj hk
      have e2 : w1.heap.size + 1 + 1 = k := Option.some.inj e
      omega)
  have HB0 := Lib.hid (show Below M w (((w1.alloc (.cells #[.int .i64 (st : Nat)] 2)).alloc (.cells #[.int .i64 (-1)] 3)).alloc (.cells #[.int .i64 0] 2)) from by
    have := HW1.out
    refine Below.alloc (Below.alloc (Below.alloc HB1.out ?_ _) ?_ _) ?_ _
    all_goals (first | omega | (simp only [size_alloc']; omega)))
  clear hmk HS0 HS1 hbM
  go_wp2_with fail
  go_loopw [5, 6, 7, 8] (fun v5 v6 v7 v8 wr => ∃ (i : Nat) (P : List Q), i ≤ P.length ∧ v8 = .int .i64 i ∧ FG wr M (.slice (some ⟨M, 0, none⟩) n n) v5 v6 v7 (tb n (metB 1 P)) (lv P) (fv P) (cv P) ∧ Par (wide x.k) P (First.seen (stX x) (wide x.k) (st, 0) i) ∧ (∀ j, j < i → accX x (sg (stX x) (wide x.k) (st, 0) i j).1 = false) ∧ Below M w wr) (fun _ _ _ v8 _ => n - (intOf v8).toNat)
  case atStart => exact ⟨0, [⟨st, 0, 0, 0⟩], Nat.zero_le _, rfl, HF0.out, Par.one _ _ _, fun j hj => absurd hj (Nat.not_lt_zero j), HB0.out⟩
  case round =>
    obtain ⟨i, P, hiP, rfl, hf, hpar, hno, hbel⟩ := hrel
    have HF := Lib.hid hf
    have HPA := Lib.hid hpar
    have HNO := Lib.hid hno
    have HBL := Lib.hid hbel
    have hPn : P.length ≤ n := by rw [hpar.len]; exact HSL.out i
    obtain ⟨a5, n5, c5, rfl, hn5⟩ := hf.list.shape'
    have hn5 : n5 = P.length := by have : n5 = (lv P).length := hn5; rw [this, lv_len]
    subst hn5
    have hMw : M < wr.heap.size := hf.seen.lt (k := M) rfl
    have HMW := Lib.hid hMw
    clear hf hpar hno hbel HF0 HB0 x1 x2
    by_cases hlt : i < P.length
    · have HIL := Lib.hid (show i < (First.seen (stX x) (wide x.k) (st, 0) i).length by rw [← HPA.out.len]; exact hlt)
      obtain ⟨g5, e5, hg5⟩ := HF.out.list.addr (by rw [lv_len]; omega)
      subst e5
      have k5 := HF.out.list.cellOf (i := i) (by rw [lv_len]; exact hlt)
      rw [lv_get] at k5
      have hkey := HPA.out.key hlt HIL.out
      rw [← sg_get HIL.out] at hkey
      have hsn := (HSLT.out i _ (List.getElem_mem HIL.out)).1
      rw [← sg_get HIL.out] at hsn
      obtain ⟨a, ha⟩ : ∃ a, a = (sg (stX x) (wide x.k) (st, 0) i i).1.1 := ⟨_, rfl⟩
      have hPl : (P[i]).l = a := by rw [ha, ← hkey]; rfl
      rw [hPl] at k5
      rw [← ha] at hsn
      have HA := Lib.hid ha
      have HBW := Lib.hid (show Below w.heap.size w wr by rw [← HMM.out]; exact HBL.out)
      have x2 := HC2.out _ HBW.out
      have z1 := HAC.out _ HBW.out a hsn
      have HGV := Lib.hid (show accX x (sg (stX x) (wide x.k) (st, 0) i i).1 = x.acc.getD a false by unfold accX; rw [← HA.out])
      obtain ⟨gv, hgv⟩ : ∃ g, g = x.acc.getD a false := ⟨_, rfl⟩
      rw [← hgv] at z1 HGV
      have l1' : bp < wr.heap.size := by have := HMM.out; omega
      have l2' : ba < wr.heap.size := by have := HMM.out; omega
      have hI1 : (a : Int) < (n : Int) := by omega
      have hI2 : (i : Int) < (P.length : Int) := by omega
      have hJ1 : 0 ≤ (a : Int) := by omega
      have hJ2 : 0 ≤ (i : Int) := by omega
      clear hgv ha hkey hPl
      go_wp2_with fail
      go_quiet (fail)
      have HF7 := Lib.hid (HF.out.drewN nq)
      have HB7 := Lib.hid (show Below M w (wr.drewN nq) from below_drewN HBL.out _)
      have HL7 := Lib.hid (show M < (wr.drewN nq).heap.size from hMw)
      generalize wr.drewN nq = w7 at HF7 HB7 HL7 ⊢
      clear k5 z1 x2 l1' l2' hI1 hI2 hJ1 hJ2 hMw HF HBL HMW HBW
      cases gv with
      | true =>
        have hd := doneX_some (x := x) (i := i) HOK.out (by rw [← HST.out]; exact HIL.out) (by rw [← HST.out]; exact HNO.out) (by rw [← HST.out]; exact HGV.out)
        rw [← HST.out] at hd
        have HD := Lib.hid hd
        have HPT := Lib.hid (pthG HIL.out)
        obtain ⟨a6, n6, c6, rfl, -⟩ := HF7.out.frm.shape'
        obtain ⟨a7, n7, c7, rfl, -⟩ := HF7.out.cols.shape'
        obtain ⟨g6, e6, hg6⟩ := HF7.out.frm.addr (by rw [fv_len]; omega)
        subst e6
        obtain ⟨g7, e7, hg7⟩ := HF7.out.cols.addr (by rw [cv_len]; omega)
        subst e7
        have HN6 := Lib.hid (show n6 = P.length by obtain ⟨a, cp, e, -⟩ := HF7.out.frm.shape; rw [fv_len] at e; injection e)
        have HN7 := Lib.hid (show n7 = P.length by obtain ⟨a, cp, e, -⟩ := HF7.out.cols.shape; rw [cv_len] at e; injection e)
        clear hd
        go_wp2_with fail
        go_loopw [9, 10] (fun v9 v10 wb => ∃ (j : Nat) (R : List Nat), j < P.length ∧ R.length + j ≤ i ∧ v10 = .int .i64 j ∧ Heap.Lst wb w7.heap.size 2 v9 (iv R) ∧ pth (First.seen (stX x) (wide x.k) (st, 0) i) i = pth (First.seen (stX x) (wide x.k) (st, 0) i) j ++ R.reverse ∧ Below w7.heap.size w7 wb) (fun _ v10 _ => (intOf v10).toNat)
        case atStart => exact ⟨i, [], hlt, by simp, rfl, Heap.Lst.empty _ _ _ (Nat.le_refl _), by simp, (Below.refl _ _).alloc (Nat.le_refl _) _⟩
        case round =>
          obtain ⟨j, R, hj, hR, rfl, hl, hpt, hb⟩ := hrel
          have HL := Lib.hid hl
          have HPJ := Lib.hid hpt
          have HB := Lib.hid hb
          have k6 := (HF7.out.below hb).frm.cellOf (i := j) (by rw [fv_len]; exact hj)
          rw [fv_get] at k6
          have lg6 : g6 < wr.heap.size := by have := hb.size; omega
          have lg7 : g7 < wr.heap.size := by have := hb.size; omega
          have hjn6 : (j : Int) < (n6 : Int) := by have := HN6.out; omega
          have hjn7 : (j : Int) < (n7 : Int) := by have := HN7.out; omega
          have hj00 : 0 ≤ (j : Int) := by omega
          obtain ⟨a9, n9, c9, rfl, hn9⟩ := hl.shape'
          have HN9 := Lib.hid (show n9 = R.length by have : n9 = (iv R).length := hn9; rw [this, iv_len])
          clear hl hpt hb hn9
          by_cases h0 : j = 0
          · subst h0
            rw [show ((0 : Nat) : Int) = 0 from rfl] at hjn6 hjn7 hj00 ⊢
            have e6 : fAt P 0 = -1 := rfl
            rw [e6] at k6
            have HPE := Lib.hid (show pth (First.seen (stX x) (wide x.k) (st, 0) i) i = R.reverse by rw [HPJ.out, HPA.out.zero, List.nil_append])
            have HOW := Lib.hid (show Heap.Own (wr.alloc (.cells #[] 2)) w7.heap.size 2 [(.slice (some ⟨wr.heap.size, 0, none⟩) 0 0, iv []), (.slice a9 n9 c9, iv R)] from
              Own.addNew (w := wr) (Own.add (Own.nil _ _ _) HL.out (fun p hp => by cases hp)) ((Below.refl _ _).alloc (Nat.le_refl _) _) (Heap.Lst.empty _ _ _ HB.out.size) (fun k hk => by have e : wr.heap.size = k := Option.some.inj hk; omega))
            have HBA := Lib.hid (show Below w7.heap.size w7 (wr.alloc (.cells #[] 2)) from HB.out.alloc HB.out.size _)
            obtain ⟨rl, hrl⟩ : ∃ m, m = R.length := ⟨_, rfl⟩
            have HRL := Lib.hid hrl
            have hn9 : n9 = rl := by rw [HN9.out, hrl]
            subst hn9
            have hrb : n9 ≤ 10000000 := by omega
            have hw9 : IntKind.i64.wrap ((n9 : Int) - 1) = (n9 : Int) - 1 := by rw [IntKind.wrap_i64]; omega
            clear hrl HN9
            go_wp2_with fail
            go_loopw [11, 12] (fun v11 v12 wb => ∃ (s : Nat) (t : Int), s ≤ n9 ∧ t = (n9 : Int) - 1 - (s : Int) ∧ v12 = .int .i64 t ∧ Heap.Own wb w7.heap.size 2 [(v11, iv (R.reverse.take s)), (.slice a9 n9 c9, iv R)] ∧ Below w7.heap.size w7 wb) (fun _ v12 _ => (intOf v12 + 1).toNat)
            case atStart => exact ⟨0, _, Nat.zero_le _, by omega, rfl, HOW.out, HBA.out⟩
            case round =>
              obtain ⟨s, t, hs, ht, rfl, how, hb⟩ := hrel
              have HO := Lib.hid how
              have HB2 := Lib.hid hb
              clear how hb k6 lg6 lg7 HOW HBA hw9
              obtain ⟨a11, n11, c11, e11, -⟩ := (Own.get [] _ HO.out).shape'
              subst e11
              by_cases hlt2 : s < n9
              · obtain ⟨u, hu⟩ : ∃ u, u = n9 - 1 - s := ⟨_, rfl⟩
                obtain rfl : t = (u : Nat) := by omega
                have hl9 := Own.get [(.slice a11 n11 c11, iv (R.reverse.take s))] [] HO.out
                obtain ⟨g9, e9, hg9⟩ := hl9.addr (by rw [iv_len, ← HRL.out]; omega)
                subst e9
                have k9 := hl9.cellOf (i := u) (by rw [iv_len, ← HRL.out]; omega)
                rw [iv_get] at k9
                have HNX := Lib.hid (rev_next R (t := s) (by rw [← HRL.out]; exact hlt2))
                have hRu : R.getD (R.length - 1 - s) 0 = R.getD u 0 := by rw [hu, HRL.out]
                have HRU := Lib.hid hRu
                obtain ⟨ru, hru⟩ : ∃ y, y = R.getD u 0 := ⟨_, rfl⟩
                rw [← hru] at k9 HRU
                have HSB := Lib.hid HB2.out.size
                have HLO := Lib.hid (Own.get [] _ HO.out)
                have HLL := Lib.hid (show (iv (R.reverse.take s)).length ≤ 100000000 by rw [iv_len, List.length_take]; omega)
                have hIu : (u : Int) < (n9 : Int) := by omega
                have hJu : 0 ≤ (u : Int) := by omega
                have hwu : IntKind.i64.wrap ((u : Int) - 1) = (u : Int) - 1 := by rw [IntKind.wrap_i64]; omega
                have HU := Lib.hid hu
                clear hl9 hRu hru hu ht
                go_wp2_with (at_builtin; refine wpList_push rfl _ _ 44 rfl 2 (.int .i64 0) 8 Try.underlying44 info2 (by decide) (by decide) w7.heap.size (.slice a11 n11 c11) (iv (R.reverse.take s)) (.int .i64 (ru : Nat)) HLO.out HSB.out rfl HLL.out rfl _ rfl rfl ?_; intro v6 w6 hp6; have HO6 := Lib.hid (Own.push [] _ HO.out hp6); have HB6 := Lib.hid (HB2.out.grown hp6.grow HSB.out (fun q hq => HLO.out.ge hq)); clear hp6)
                go_roundw
                case rel =>
                  refine ⟨s + 1, _, by omega, ?_, rfl, ?_, HB6.out⟩
                  · have := HU.out; omega
                  · rw [HNX.out, HRU.out, ← iv_push]; exact HO6.out
                case measure => simp [intOf]
              · obtain rfl : t = -1 := by omega
                obtain rfl : s = n9 := by omega
                have HLO := Lib.hid (show Heap.Lst wr w7.heap.size 2 (.slice a11 n11 c11) (iv R.reverse) from by
                  have h := Own.get [] _ HO.out
                  rwa [List.take_of_length_le (by rw [List.length_reverse, ← HRL.out]; exact Nat.le_refl _)] at h)
                clear hlt2 hs ht
                go_wp2_with fail
                go_ret2
                refine .inl ⟨_, _, HD.out.1, HD.out.2, rfl, ?_, ?_⟩
                · rw [← HPT.out, HPE.out]
                  exact HLO.out.mono (by have := HL7.out; have := HMM.out; omega)
                · exact (HMM.out ▸ HB7.out).trans (HB2.out.mono (by have := HL7.out; have := HMM.out; omega))
          · obtain ⟨hfj, hcj, hpj⟩ := HPA.out.back j (by omega) hj
            have k7 := (HF7.out.below HB.out).cols.cellOf (i := j) (by rw [cv_len]; exact hj)
            rw [FirstK.cv_get] at k7
            have e6 : fAt P j = (((P.getD j q0).f : Nat) : Int) := by unfold fAt; rw [if_neg h0]
            have hpg : P[j] = P.getD j q0 := by rw [List.getD_eq_getElem?_getD, List.getElem?_eq_getElem hj, Option.getD_some]
            rw [e6] at k6
            rw [hpg] at k7
            obtain ⟨q, hq⟩ : ∃ q, q = P.getD j q0 := ⟨_, rfl⟩
            rw [← hq] at k6 k7 hfj hcj hpj
            obtain ⟨ql, qr, qf, qc⟩ := q
            simp only at k6 k7 hfj hcj hpj
            have HPS := Lib.hid hpj
            have HSB := Lib.hid HB.out.size
            have HLL := Lib.hid (show (iv R).length ≤ 100000000 by rw [iv_len]; omega)
            have hqf : 0 ≤ (qf : Int) := by omega
            have HK6 := Lib.hid (fun W (hb : Below w7.heap.size w7 W) => (HF7.out.below hb).frm.cellOf (i := j) (by rw [fv_len]; exact hj))
            have HE6 := Lib.hid (show (fv P)[j]'(by rw [fv_len]; exact hj) = .int .i64 (qf : Nat) by rw [fv_get, e6, ← hq])
            clear hq hpg e6 hpj
            go_wp2_with (at_builtin; refine wpList_push rfl _ _ 44 rfl 2 (.int .i64 0) 8 Try.underlying44 info2 (by decide) (by decide) w7.heap.size (.slice a9 n9 c9) (iv R) (.int .i64 (qc : Nat)) HL.out HSB.out rfl HLL.out rfl _ rfl rfl ?_; intro v6 w6 hp6; have HL6 := Lib.hid hp6.lst; have HB6 := Lib.hid (HB.out.grown hp6.grow HSB.out (fun q hq => HL.out.ge hq)); have k6 := HK6.out w6 HB6.out; rw [HE6.out] at k6; have lg6 : g6 < w6.heap.size := (by have := HB6.out.size; omega); clear hp6)
            go_roundw
            case rel =>
              refine ⟨qf, R ++ [qc], by omega, by rw [List.length_append]; simp; omega, rfl, by rw [← iv_push]; exact HL6.out, by rw [HPJ.out, HPS.out]; simp, HB6.out⟩
            case measure => simp [intOf]; omega
      | false =>
        go_wp2_with fail
        go_loopw [5, 6, 7, 13] (fun v5 v6 v7 v13 wb => ∃ (c : Nat) (P2 : List Q), c ≤ wd ∧ v13 = .int .i64 c ∧ FG wb M (.slice (some ⟨M, 0, none⟩) n n) v5 v6 v7 (tb n (metB 1 P2)) (lv P2) (fv P2) (cv P2) ∧ Par (wide x.k) P2 (First.mid (stX x) (wide x.k) (st, 0) i c) ∧ Below M w wb) (fun _ _ _ v13 _ => wd - (intOf v13).toNat)
        case atStart => exact ⟨0, P, Nat.zero_le _, rfl, HF7.out, by rw [mid_zero]; exact HPA.out, HB7.out⟩
        case round =>
          obtain ⟨c, P2, hc, rfl, hf2, hpar2, hbel2⟩ := hrel
          have HF2 := Lib.hid hf2
          have HPA2 := Lib.hid hpar2
          have HBL2 := Lib.hid hbel2
          have HBW := Lib.hid (show Below w.heap.size w wr by rw [← HMM.out]; exact hbel2)
          obtain ⟨-, hml, hmk⟩ := midG (c := c) HIL.out
          have hl2 : i < P2.length := by rw [hpar2.len]; exact hml
          have hk2 := hpar2.key hl2 hml
          rw [hmk] at hk2
          have hPl : (P2[i]).l = a := by rw [HA.out, ← hk2]; rfl
          have hP2 : P2.length ≤ n := by rw [hpar2.len]; exact HML.out i c HIL.out (by rw [← HWD.out]; exact hc)
          obtain ⟨a5, n5, c5, rfl, hn5⟩ := hf2.list.shape'
          have hn5 : n5 = P2.length := by have : n5 = (lv P2).length := hn5; rw [this, lv_len]
          subst hn5
          obtain ⟨g5, e5, hg5⟩ := hf2.list.addr (by rw [lv_len]; omega)
          subst e5
          have k5 := hf2.list.cellOf (i := i) (by rw [lv_len]; exact hl2)
          rw [lv_get, hPl] at k5
          have x3 := HC3.out _ HBW.out
          obtain ⟨b9, o9, c9, hb9, hrow⟩ := HRW.out a hsn
          obtain ⟨r9, r10⟩ := hrow _ HBW.out
          have hMw : M < wr.heap.size := hf2.seen.lt (k := M) rfl
          have lbp : bp < wr.heap.size := by have := HMM.out; omega
          have lbn : bn < wr.heap.size := by have := HMM.out; omega
          have lb9 : b9 < wr.heap.size := by have := HMM.out; omega
          have hI1 : (a : Int) < (n : Int) := by omega
          have hI2 : (i : Int) < (P2.length : Int) := by omega
          have hJ1 : 0 ≤ (a : Int) := by omega
          have hJ2 : 0 ≤ (i : Int) := by omega
          have HMW := Lib.hid hMw
          clear HF7 HB7 HL7 hml hmk hk2 hPl hpar2 hbel2 hrow hMw
          by_cases hlc : c < wd
          · have r11 := r10 c hlc
            have hto := HLT.out a hsn c (by rw [← HWD.out]; exact hlc)
            have HPS := Lib.hid (FirstK.stepG (P := P2) (c := c) (ab := (stL x a c, 0)) HPA2.out HIL.out (by rw [← HWD.out]; exact hlc) (by rw [HA.out]; rfl))
            obtain ⟨ty, hto'⟩ : ∃ t, t = stL x a c := ⟨_, rfl⟩
            have hto : ty < n := by rw [hto']; exact hto
            rw [← hto'] at r11 HPS
            have ks := hf2.seen.cellOf (i := ty) (by rw [tb_length]; exact hto)
            have hmb : metB 1 P2 ty = decide (TidyMath.idx kq P2 ⟨ty, 0, i, c⟩ < P2.length) := by
              have h := metB_at (m := 1) (P := P2) (q := ⟨ty, 0, i, c⟩) (by show 0 < 1; omega)
              unfold Go.Proofs.Ytaebeglcoghehaa.Steps.code at h
              simpa using h
            rw [tb_get, hmb] at ks
            have fs := hf2.seen.free ty
            have hI3 : (ty : Int) < (n : Int) := by omega
            have hI4 : (c : Int) < (wd : Int) := by omega
            have hJ3 : 0 ≤ (ty : Int) := by omega
            have hJ4 : 0 ≤ (c : Int) := by omega
            have hMw := HMW.out
            have hcc : IntKind.i64.wrap ((c : Int) + 1) = (c : Int) + 1 := by rw [IntKind.wrap_i64]; omega
            have hcw : IntKind.i64.wrap (c : Int) = (c : Int) := by rw [IntKind.wrap_i64]; omega
            clear r10 hto' hmb hf2
            by_cases hm : TidyMath.idx kq P2 ⟨ty, 0, i, c⟩ < P2.length
            · rw [decide_eq_true hm] at ks
              have HPE := Lib.hid (show Par (wide x.k) P2 (First.mid (stX x) (wide x.k) (st, 0) i (c + 1)) by
                have h := HPS.out
                unfold TidyMath.meet at h
                rwa [if_pos hm] at h)
              clear hm
              go_wp2_with fail
              go_quiet (fail)
              go_wp2_with fail
              go_quiet (fail)
              go_wp2_with fail
              go_roundw
              case rel => exact ⟨c + 1, P2, hlc, by go_num, HF2.out.drewN _, HPE.out, below_drewN HBL2.out _⟩
              case measure => simp [intOf]; omega
            · rw [decide_eq_false hm] at ks
              have HPE := Lib.hid (show Par (wide x.k) (P2 ++ [⟨ty, 0, i, c⟩]) (First.mid (stX x) (wide x.k) (st, 0) i (c + 1)) by
                have h := HPS.out
                unfold TidyMath.meet at h
                rwa [if_neg hm] at h)
              have HM := Lib.hid hm
              clear hm
              go_wp2_with fail
              go_quiet (fail)
              generalize nq = n1
              go_wp2_with fail
              go_quiet (fail)
              go_upto_region 27 with fail
              have HF3 := Lib.hid (show FG ((wr.drewN (n1 + nq)).setCell ⟨M, ty, none⟩ (.bool true)) M (.slice (some ⟨M, 0, none⟩) n n) (.slice (some ⟨g5, 0, none⟩) P2.length c5) u6 u7 (tb n (metB 1 (P2 ++ [⟨ty, 0, i, c⟩]))) (lv P2) (fv P2) (FirstK.cv P2) from by
                have h := (HF2.out.drewN (n1 + nq)).setS (i := ty) (by rw [tb_length]; exact hto) (.bool true)
                rw [tb_set, tb_congr (S := metB 1 (P2 ++ [⟨ty, 0, i, c⟩])) (fun k _ => by
                  rw [metB_push (by show 0 < 1; omega) HM.out]
                  unfold Go.Proofs.Ytaebeglcoghehaa.Steps.code
                  simp)] at h
                exact h)
              have HB3 := Lib.hid (show Below M w ((wr.drewN (n1 + nq)).setCell ⟨M, ty, none⟩ (.bool true)) from (below_drewN HBL2.out _).setCell (by show M ≤ M; omega) _)
              have HS3 := Lib.hid (show M ≤ ((wr.drewN (n1 + nq)).setCell ⟨M, ty, none⟩ (.bool true)).heap.size by have := HMW.out; simp [World.setCell]; omega)
              have HLL := Lib.hid (show (lv P2).length ≤ 100000000 by rw [lv_len]; omega)
              have HLF := Lib.hid (show (fv P2).length ≤ 100000000 by rw [fv_len]; omega)
              have HLC := Lib.hid (show (FirstK.cv P2).length ≤ 100000000 by rw [cv_len]; omega)
              generalize (wr.drewN (n1 + nq)).setCell ⟨M, ty, none⟩ (.bool true) = w3 at HF3 HB3 HS3 ⊢
              clear k5 x3 r9 r11 ks fs lbp lbn lb9 hMw HF2 HBW HBL2 HMW hg5
              go_upto_region 28 with (at_builtin; refine wpList_push rfl _ _ 44 rfl 2 (.int .i64 0) 8 Try.underlying44 info2 (by decide) (by decide) M _ (lv P2) (.int .i64 (ty : Nat)) HF3.out.list HS3.out rfl HLL.out rfl _ rfl rfl ?_; intro va wa hpa; have HF4 := Lib.hid (HF3.out.pushL hpa); have HB4 := Lib.hid (HB3.out.grown hpa.grow HS3.out (fun q hq => HF3.out.list.ge hq)); have HS4 := Lib.hid (Nat.le_trans HS3.out hpa.grow.size); clear hpa)
              go_upto_region 29 with (at_builtin; refine wpList_push rfl _ _ 92 rfl 3 (.int .i64 0) 8 Try.underlying92 infoInt (by decide) (by decide) M _ (fv P2) (.int .i64 (i : Nat)) HF4.out.frm HS4.out rfl HLF.out rfl _ rfl rfl ?_; intro vb wb hpb; have HF5 := Lib.hid (HF4.out.pushF hpb); have HB5 := Lib.hid (HB4.out.grown hpb.grow HS4.out (fun q hq => HF4.out.frm.ge hq)); have HS5 := Lib.hid (Nat.le_trans HS4.out hpb.grow.size); clear hpb)
              go_wp2_with (at_builtin; refine wpList_push rfl _ _ 44 rfl 2 (.int .i64 0) 8 Try.underlying44 info2 (by decide) (by decide) M _ (FirstK.cv P2) (.int .i64 (c : Nat)) HF5.out.cols HS5.out rfl HLC.out rfl _ rfl rfl ?_; intro vc wc hpc; have HF6 := Lib.hid (HF5.out.pushC hpc); have HB6 := Lib.hid (HB5.out.grown hpc.grow HS5.out (fun q hq => HF5.out.cols.ge hq)); clear hpc)
              go_roundw
              case rel => exact ⟨c + 1, P2 ++ [⟨ty, 0, i, c⟩], hlc, by go_num, by rw [lv_push, fv_push _ _ (by omega), cv_push]; exact HF6.out, HPE.out, HB6.out⟩
              case measure => simp [intOf]; omega
          · obtain rfl : c = wd := by omega
            have HPE := Lib.hid (show First.mid (stX x) (wide x.k) (st, 0) i c = First.seen (stX x) (wide x.k) (st, 0) (i + 1) by rw [HWD.out]; exact mid_all _ _ _ HIL.out)
            have hii : IntKind.i64.wrap ((i : Int) + 1) = (i : Int) + 1 := by rw [IntKind.wrap_i64]; omega
            clear r10 hf2
            go_wp2_with fail
            go_quiet (fail)
            go_wp2_with fail
            go_roundw
            case rel =>
              refine ⟨i + 1, P2, by omega, by go_num, HF2.out.drewN _, by rw [← HPE.out]; exact HPA2.out, keepG HIL.out HNO.out HGV.out, below_drewN HBL2.out _⟩
            case measure => simp [intOf]; omega
    · obtain rfl : i = P.length := by omega
      have HFN := Lib.hid (doneX_none (x := x) (i := P.length) (by rw [← HST.out, ← HPA.out.len]; exact Nat.le_refl _) (by rw [← HST.out]; exact HNO.out))
      go_wp2_with fail
      go_ret2
      exact .inr ⟨HFN.out, _, _, rfl, by rw [← HMM.out]; exact HBL.out.alloc (by omega) _⟩
end Go.Proofs.Ytaebeglcoghehaa.FirstS
