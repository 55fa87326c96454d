
/- What is appended: a list that is another's.
   Conditions: stated at each theorem. -/
import Derived.Test.YtaimealknkhfbaaDoorRB5
import Derived.Test.YtaimealknkhfbaaDoorRB8
import Derived.Test.YtaimealknkhfbaaDoorRB9
import Derived.Deep.RegionHeld3
import Derived.Deep.DrawnRows
import Derived.Deep.RegionLaw
namespace Go.Proofs.YtaimealknkhfbaaDoor.Push
set_option linter.unusedVariables false
set_option linter.unusedSimpArgs false
open Go.RowKit Mem Copy Heap

theorem tv_snoc (c : Nat) (T : Nat → Int) : tv c T ++ [Value.int .i64 (T c)] = tv (c + 1) T := by unfold tv; rw [List.range_succ, List.map_append]; rfl
/-- The law for appending a list that is another's. -/
theorem wpList_pushs {P : Program} {w : World} {ops : Array Oper} {rest : List Oper} {o : Oper} {a : Act} {Q : Exit → Act → World → Prop} (hgd : o.guard = none) (s x : Operand) (t : TypeId)
    (ho : o.op = .call { callee := .builtin .append, args := #[s, x], argTypes := #[t, t] })
    (e : TypeId) (z : Value) (bytes : Nat) (ht : P.underlying t = some (.slice e)) (hinfo : (P.info? e).map (fun i => (i.zero, i.size, i.bytes)) = some (some z, 1, bytes)) (hzs : z.cells.size = 1) (hby : bytes ≤ 24)
    (B : Nat) (v : Value) (xs : List Value) (hown : Lst w B e v xs) (hB : B ≤ w.heap.size) (news : List Value) (h1 : ∀ u ∈ news, u.oneCell' = true) (hlen : xs.length + news.length ≤ 100000000) (hs : a.eval s = v) (ad : Addr) (m c : Nat) (hx : a.eval x = .slice (some ad) m c) (hm : news.length = m)
    (hnews : ∀ j u, news[j]? = some u → w.cell? (ad.add j) = some u)
    (h : ∀ v' w', Lst w' B e v' (xs ++ news) → w.grownBy w' v.ownBlock → wpList P ops Q rest (a.put o.dst v') w') : wpList P ops Q (o :: rest) a w := by
  obtain ⟨i, hi, hz, hsize, hbytes⟩ := info_parts hinfo
  refine wpList_append_own_at (P := P) _ hgd s x t ho B e i z 1 bytes ht hi hz hsize hbytes hzs (by decide) v xs.length xs hs hown ad m c news hx (by rw [hm, Nat.mul_one]) hnews h1 (by unfold maxLen; omega) ?_ hB ?_
  · have : (xs.length + m) * bytes ≤ 100000000 * 24 := Nat.mul_le_mul (by omega) hby
    omega
  · intro v' w' hown' hg _ _
    refine h v' w' ?_ hg
    unfold Lst
    rw [List.length_append, hm]
    exact hown'

end Go.Proofs.YtaimealknkhfbaaDoor.Push
/- The model's copy of a relation.
   Conditions: stated at each theorem. -/
namespace Go.Proofs.YtaimealknkhfbaaDoor.CopyI
set_option linter.unusedVariables false
set_option linter.unusedSimpArgs false
set_option maxRecDepth 100000
open Go.RowKit Mem Copy Rel Valid Heap Push Columns Bld TidyAuto TidyRight SpecRight ToL SpecTidyRel
attribute [local go_sem ↓] Go.wp_at_zero Go.wp_at_succ

theorem heap_last (w : World) (o : Obj) : (w.alloc o).heap[w.heap.size]? = some o := by
  show (w.heap.push o)[w.heap.size]? = some o
  exact Array.getElem?_push_size
/-- A struct that is written into a place of its own. -/
theorem Bld.boxed {w : World} {B Z : Nat} {k st : Int} {va : Value} {accs : List Value} (hz : w.heap[Z]? = some (.cells #[Value.int .i64 0, .int .i64 0, .slice none 0 0, .slice none 0 0] 27 (0, 0))) (hB : B ≤ Z) (hl : Lst w B 4 va accs) :
    Bld ((((w.setCell ⟨Z, 0, none⟩ (.int .i64 k)).setCell ⟨Z, 1, none⟩ (.int .i64 st)).setCell ⟨Z, 2, none⟩ va).setCell ⟨Z, 3, none⟩ (.slice none 0 0)) B Z k st va (.slice none 0 0) [] [] accs := by
  have p0 := cells_set hz 0 (.int .i64 k)
  have p1 := cells_set p0 1 (.int .i64 st)
  have p2 := cells_set p1 2 va
  have p3 := cells_set p2 3 (.slice none 0 0)
  simp at p3
  refine ⟨Own.nil _ _ _, ?_, Lst.nil _ _ _, p3, hB⟩
  have h0 := hl.setOther (a := ⟨Z, 0, none⟩) (block_apart hl hz (by decide)) (.int .i64 k)
  have h1 := h0.setOther (a := ⟨Z, 1, none⟩) (block_apart h0 p0 (by decide)) (.int .i64 st)
  have h2 := h1.setOther (a := ⟨Z, 2, none⟩) (block_apart h1 p1 (by decide)) va
  exact h2.setOther (a := ⟨Z, 3, none⟩) (block_apart h2 p2 (by decide)) (.slice none 0 0)

/-- The law for appending a list that is another's, at a step of a region that draws its order. -/
theorem step_pushs {P : Program} {w : World} {ops : Array Oper} {o : Oper} {a : Act} {K : Act → World → Prop} {Q : Exit → Act → World → Prop} {E : Prop} (hgd : o.guard = none) (s x : Operand) (t : TypeId)
    (ho : o.op = .call { callee := .builtin .append, args := #[s, x], argTypes := #[t, t] })
    (e : TypeId) (z : Value) (bytes : Nat) (ht : P.underlying t = some (.slice e)) (hinfo : (P.info? e).map (fun i => (i.zero, i.size, i.bytes)) = some (some z, 1, bytes)) (hzs : z.cells.size = 1) (hby : bytes ≤ 24)
    (B : Nat) (v : Value) (xs : List Value) (hown : Lst w B e v xs) (hB : B ≤ w.heap.size) (news : List Value) (h1 : ∀ u ∈ news, u.oneCell' = true) (hlen : xs.length + news.length ≤ 100000000) (hs : a.eval s = v) (ad : Addr) (m c : Nat) (hx : a.eval x = .slice (some ad) m c) (hm : news.length = m) (hm0 : 0 < m)
    (hnews : ∀ j u, news[j]? = some u → w.cell? (ad.add j) = some u)
    (h : ∀ v' w', Lst w' B e v' (xs ++ news) → w.grownBy w' v.ownBlock → K (a.put o.dst v') w') :
    if Region.wanted o (yielded ops a.tmps) = true then Oper.wp P o a w K Q else E := by
  obtain ⟨i, hi, hz, hsize, hbytes⟩ := info_parts hinfo
  refine step_append_lies (P := P) (w := w) hgd s x t ho B e i z 1 bytes ht hi hz hsize hbytes hzs (by decide) v xs.length xs hs hown ad m c news hx (by rw [hm, Nat.mul_one]) hnews h1 hm0 (by unfold maxLen; omega) ?_ hB _ rfl ?_
  · have : (xs.length + m) * bytes ≤ 100000000 * 24 := Nat.mul_le_mul (by omega) hby
    omega
  · intro g cap w' hown' hg hat hgl
    refine h _ w' ?_ hg
    unfold Lst
    rw [List.length_append, hm]
    exact hown'

end Go.Proofs.YtaimealknkhfbaaDoor.CopyI
