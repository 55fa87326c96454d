
/- Two transducers in boxes, and a result's place behind them; two edges that are appended at once.
   Conditions: stated at each theorem. -/
import Derived.Test.YtjoiaenkmmmmpaaRepSpec
namespace Go.Proofs.Ytjoiaenkmmmmpaa.TwoTr
set_option linter.unusedVariables false
set_option linter.unusedSimpArgs false
set_option maxRecDepth 100000
open Go.RowKit Mem Copy Rel Heap MarkRow Edg EdgCopy EdgEq TrHeap TrLawKit TrValid TrImplValid TurnImpl TurnSpec Push TrReach TrReached TrimKit AddSpec ToldTr RepSpec

abbrev K22 (w : World) (c d : Array Value) (W : World) : Prop := K2 (w.alloc (.cells c 30)) d W
section
variable {w W : World} {c d : Array Value}
theorem K22.size (h : K22 w c d W) : w.heap.size + 3 ≤ W.heap.size := by have := K2.size h; rw [size_alloc'] at this; omega
theorem K22.base (h : K22 w c d W) : Below w.heap.size w W := (base_box (Below.refl _ w) _).trans ((K2.base h).mono (by rw [size_alloc']; omega))
theorem K22.step {W' : World} (h : K22 w c d W) (hb : Below W.heap.size W W') : K22 w c d W' := K2.step h hb
theorem K22.low {W' : World} (h : K22 w c d W) {C : Nat} (hb : Below C W W') (hC : w.heap.size + 3 ≤ C) : K22 w c d W' := Below.trans h (hb.mono (by rw [size_alloc']; omega))
theorem K22.blk (h : K22 w c d W) : W.heap[w.heap.size]? = some (.cells c 30 (0, 0)) := by
  rw [Below.block (K2.base h) _ (by rw [size_alloc']; omega)]; exact heap_alloc_new _ _
theorem K22.box1 {x y z : Value} (h : K22 w #[x, y, z] d W) : W.cell? ⟨w.heap.size, 0, none⟩ = some x ∧ W.cell? ⟨w.heap.size, 1, none⟩ = some y ∧ W.cell? ⟨w.heap.size, 2, none⟩ = some z :=
  ⟨(cell_of_block (K22.blk h) 0).1, (cell_of_block (K22.blk h) 1).1, (cell_of_block (K22.blk h) 2).1⟩
theorem K22.box2 {x y z : Value} (h : K22 w c #[x, y, z] W) : W.cell? ⟨w.heap.size + 1, 0, none⟩ = some x ∧ W.cell? ⟨w.heap.size + 1, 1, none⟩ = some y ∧ W.cell? ⟨w.heap.size + 1, 2, none⟩ = some z := by
  have := K2.boxc h; rw [size_alloc'] at this; exact this
theorem K22.res (h : K22 w c d W) : W.heap[w.heap.size + 2]? = some (.cells #[Value.int .i64 0, .slice none 0 0, .slice none 0 0] 30 (0, 0)) := by
  have := K2.res h; rw [size_alloc'] at this; exact this
theorem K22.cells (h : K22 w c d W) : W.cell? ⟨w.heap.size + 2, 0, none⟩ = some (.int .i64 0) ∧ W.cell? ⟨w.heap.size + 2, 1, none⟩ = some (.slice none 0 0) ∧ W.cell? ⟨w.heap.size + 2, 2, none⟩ = some (.slice none 0 0) ∧
    W.frozen? ⟨w.heap.size + 2, 0, none⟩ = false ∧ W.frozen? ⟨w.heap.size + 2, 1, none⟩ = false ∧ W.frozen? ⟨w.heap.size + 2, 2, none⟩ = false := by
  have := K2.cells h; rw [size_alloc'] at this; exact this
theorem K22.grown {W' : World} {v : Value} {e : TypeId} {xs : List Value} (h : K22 w c d W) (hl : Lst W (w.heap.size + 3) e v xs) (hg : W.grownBy W' v.ownBlock) : K22 w c d W' :=
  below_grown h hg (by have := K22.size h; rw [size_alloc']; omega) (fun k hk => by rw [size_alloc']; exact hl.ge hk)
end

/-- Two edges in a block of their own. -/
abbrev boxE2 (x y : E) : Obj := .cells #[.int .i64 x.src, .int .i64 x.dst, .string x.inn, .string x.out, .int .i64 y.src, .int .i64 y.dst, .string y.inn, .string y.out] 50
theorem wpList_pushE2 {w : World} {ops : Array Oper} {rest : List Oper} {o : Oper} {a : Act} {Q : Exit → Act → World → Prop} (hgd : o.guard = none) (s x : Operand)
    (ho : o.op = .call { callee := .builtin .append, args := #[s, x], argTypes := #[28, 28] })
    (B : Nat) (v : Value) (es : List E) (u u2 : E) (hown : LstE w B v es) (hB : B ≤ w.heap.size) (hlen : es.length ≤ 100000000) (hs : a.eval s = v) (N : Nat) (hx : a.eval x = .slice (some ⟨N, 0, none⟩) 2 2) (hN : w.heap.size = N)
    (h : ∀ v' w', LstE w' B v' (es ++ [u, u2]) → w.grownBy w' v.ownBlock → wpList Try.prog ops Q rest (a.put o.dst v') w') : wpList Try.prog ops Q (o :: rest) a (w.alloc (boxE2 u u2)) := by
  obtain ⟨i, hi, hz, hsize, hbytes⟩ := info_parts infoE
  subst hN
  refine wpList_append_own_at (P := Try.prog) _ hgd s x _ ho B 50 i (edgeV noE) 4 48 Try.underlying28 hi hz hsize hbytes rfl (by decide) v es.length (eCells es) hs (LstE.alloc hown _) ⟨w.heap.size, 0, none⟩ 2 2 (eCells [u, u2]) hx (by rw [eCells_length]; rfl) ?_ (eCells_cell _) (by unfold maxLen; omega) (by omega) (by simp; omega) ?_
  · intro j u' hj
    rw [show eCells [u, u2] = cells4 u ++ cells4 u2 by have := eCells_append [u] [u2]; rw [eCells_one, eCells_one] at this; exact this] at hj
    have hadd : (⟨w.heap.size, 0, none⟩ : Addr).add j = ⟨w.heap.size, j, none⟩ := by unfold Addr.add; split <;> simp_all
    have hjl : j < 8 := by
      obtain ⟨h1, -⟩ := List.getElem?_eq_some_iff.1 hj
      exact h1
    rw [hadd, ← hj]
    unfold World.cell?
    rw [heap_alloc_new]
    unfold cells4
    match j, hjl with
    | 0, _ => rfl
    | 1, _ => rfl
    | 2, _ => rfl
    | 3, _ => rfl
    | 4, _ => rfl
    | 5, _ => rfl
    | 6, _ => rfl
    | 7, _ => rfl
  · intro v' w' hown' hg _ hat
    refine h v' w' ?_ (grown_trans_alloc hg)
    unfold LstE
    rw [List.length_append, eCells_append]
    exact hown'
section
variable {w w' : World} {B ob : Nat} {s : Int} {va vn vn' : Value} {A : List Bool} {es us : List E}
theorem BldT.obL (h : BldT w B ob s va vn A es) (hg : w.grownBy w' vn.ownBlock) : w'.heap[ob]? = some (.cells #[.int .i64 s, va, vn] 30 (0, 0)) := by
  rw [hg.block ob h.lt fun e => apartE h.edg h.at_ (by decide) e.symm]; exact h.at_
theorem BldT.pushL (h : BldT w B ob s va vn A es) (hl : LstE w' B vn' (es ++ us)) (hg : w.grownBy w' vn.ownBlock) : BldT (w'.setCell ⟨ob, 2, none⟩ vn') B ob s va vn' A (es ++ us) := by
  have hob := BldT.obL h hg
  have ha : Lst w' B 4 va (A.map Value.bool) := h.acc.grown hg fun k hk => apartL h.acc h.edg (by decide) k hk
  exact ⟨ha.setOther (block_apart ha hob (by decide)) _, hl.setOther (apartE hl hob (by decide)) _, blk_set hob, h.obB⟩
end
end Go.Proofs.Ytjoiaenkmmmmpaa.TwoTr
