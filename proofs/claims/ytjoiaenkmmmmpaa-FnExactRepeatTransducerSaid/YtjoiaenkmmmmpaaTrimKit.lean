
/- What is left of a transducer when states are left out: numbers of states, lists, and the state of the walks.
   Conditions: stated at each theorem. -/
import Derived.Test.YtjoiaenkmmmmpaaTrReached
import Derived.Test.YtjoiaenkmmmmpaaTurnSpec
namespace Go.Proofs.Ytjoiaenkmmmmpaa.TrimKit
set_option linter.unusedVariables false
set_option linter.unusedSimpArgs false
open Go.RowKit Mem Copy Rel Heap MarkRow Edg EdgCopy EdgEq TrHeap TrLawKit TrValid TrImplValid TurnImpl TurnSpec TrReach TrReached

/-- The states that are kept, below k; how many; what they accept; the edges between them. -/
def kq (K : Nat → Bool) (k : Nat) : List Nat := (List.range k).filter K
def numOf (K : Nat → Bool) (k : Nat) : Nat := (kq K k).length
def accOf (K : Nat → Bool) (acc : List Bool) (k : Nat) : List Bool := (kq K k).map fun i => acc.getD i false
def bothOf (K : Nat → Bool) (e : E) : Bool := K e.src.toNat && K e.dst.toNat
def newE (K : Nat → Bool) (e : E) : E := ⟨(numOf K e.src.toNat : Nat), (numOf K e.dst.toNat : Nat), e.inn, e.out⟩
def edgOf (K : Nat → Bool) (es : List E) : List E := (es.filter (bothOf K)).map (newE K)
def keepOf (s1 s2 : List Bool) (st i : Nat) : Bool := (s1.getD i false && s2.getD i false) || decide (i = st)
/-- What is left. -/
def trimOf (s1 s2 : List Bool) (t : T) : T :=
  ⟨(numOf (keepOf s1 s2 t.start.toNat) t.start.toNat : Nat), accOf (keepOf s1 s2 t.start.toNat) t.accept t.accept.length, edgOf (keepOf s1 s2 t.start.toNat) t.edges⟩

section
variable {K : Nat → Bool} {k : Nat}
theorem kq_yes (h : K k = true) : kq K (k + 1) = kq K k ++ [k] := by unfold kq; rw [List.range_succ, List.filter_append]; simp [h]
theorem kq_no (h : K k = false) : kq K (k + 1) = kq K k := by unfold kq; rw [List.range_succ, List.filter_append]; simp [h]
theorem numOf_le (K : Nat → Bool) (k : Nat) : numOf K k ≤ k := by
  unfold numOf kq
  have := List.length_filter_le K (List.range k)
  rwa [List.length_range] at this
theorem accOf_length (K : Nat → Bool) (acc : List Bool) (k : Nat) : (accOf K acc k).length = numOf K k := by simp [accOf, numOf]
theorem accOf_yes {acc : List Bool} (h : K k = true) : accOf K acc (k + 1) = accOf K acc k ++ [acc.getD k false] := by unfold accOf; rw [kq_yes h, List.map_append]; rfl
theorem accOf_no {acc : List Bool} (h : K k = false) : accOf K acc (k + 1) = accOf K acc k := by unfold accOf; rw [kq_no h]
theorem edgOf_yes {es : List E} (hk : k < es.length) (h : bothOf K (es.getD k noE) = true) : edgOf K (es.take (k + 1)) = edgOf K (es.take k) ++ [newE K (es.getD k noE)] := by
  unfold edgOf; rw [take_succ_getD es noE k hk, List.filter_append, List.map_append, List.filter_cons, if_pos h]; rfl
theorem edgOf_no {es : List E} (hk : k < es.length) (h : bothOf K (es.getD k noE) = false) : edgOf K (es.take (k + 1)) = edgOf K (es.take k) := by
  unfold edgOf; rw [take_succ_getD es noE k hk, List.filter_append, List.map_append, List.filter_cons, if_neg (by rw [h]; exact Bool.false_ne_true)]; exact List.append_nil _
theorem edgOf_length (K : Nat → Bool) (es : List E) : (edgOf K es).length ≤ es.length := by unfold edgOf; rw [List.length_map]; exact List.length_filter_le _ _
theorem edgOf_fits {es : List E} (h : ∀ i, i < es.length → (es.getD i noE).Fits) : ∀ i, i < (edgOf K es).length → ((edgOf K es).getD i noE).Fits := by
  intro i hi
  have hm : (edgOf K es).getD i noE ∈ edgOf K es := by
    have e : (edgOf K es).getD i noE = (edgOf K es)[i] := by simp [List.getD, hi]
    rw [e]; exact List.getElem_mem hi
  obtain ⟨e, he, hx⟩ := List.mem_map.1 hm
  obtain ⟨j, hj, rfl⟩ := List.getElem_of_mem (List.mem_filter.1 he).1
  rw [← hx]
  have := h j hj
  rw [show es.getD j noE = es[j] by simp [List.getD, hj]] at this
  exact this
end

/-- The same as wpList_pushE, at a step of a region that draws its order. -/
theorem step_pushE {w : World} {ops : Array Oper} {o : Oper} {a : Act} {K : Act → World → Prop} {Q : Exit → Act → World → Prop} {F : Prop} (hgd : o.guard = none) (s x : Operand)
    (ho : o.op = .call { callee := .builtin .append, args := #[s, x], argTypes := #[28, 28] })
    (B : Nat) (v : Value) (es : List E) (u : E) (hown : LstE w B v es) (hB : B ≤ w.heap.size) (hlen : es.length ≤ 100000000) (hs : a.eval s = v) (N : Nat) (hx : a.eval x = .slice (some ⟨N, 0, none⟩) 1 1) (hN : w.heap.size = N)
    (h : ∀ v' w', PushedE w w' B v v' es u → K (a.put o.dst v') w') :
    if Region.wanted o (yielded ops a.tmps) = true then Oper.wp Try.prog o a (w.alloc (boxE u)) K Q else F := by
  obtain ⟨i, hi, hz, hsize, hbytes⟩ := info_parts infoE
  subst hN
  refine step_append_lies (P := Try.prog) (w := w.alloc (boxE u)) hgd s x _ ho B 50 i (edgeV noE) 4 48 Try.underlying28 hi hz hsize hbytes rfl (by decide) v es.length (eCells es) hs (LstE.alloc hown _) ⟨w.heap.size, 0, none⟩ 1 1 (eCells [u]) hx (by rw [eCells_length]; rfl) ?_ (eCells_cell _) (by decide) (by unfold maxLen; omega) (by omega) (by simp; omega) _ rfl ?_
  · intro j u' hj
    rw [eCells_one] at hj
    have hadd : (⟨w.heap.size, 0, none⟩ : Addr).add j = ⟨w.heap.size, j, none⟩ := by unfold Addr.add; split <;> simp_all
    have hjl : j < 4 := by
      obtain ⟨h1, -⟩ := List.getElem?_eq_some_iff.1 hj
      exact h1
    rw [hadd, ← hj]
    unfold World.cell?
    rw [heap_alloc_new]
    unfold cells4
    match j, hjl with
    | 0, _ => rfl
    | 1, _ => rfl
    | 2, _ => rfl
    | 3, _ => rfl
  · intro g cap w' hown' hg hat hgl
    refine h _ w' ⟨?_, grown_trans_alloc hg, ?_⟩
    · unfold LstE
      rw [List.length_append, eCells_append]
      exact hown'
    · rcases hat with e | e
      · exact .inl (by rw [e]; rfl)
      · exact .inr ⟨g, rfl, by rw [e]; simp⟩

section
variable {w w' : World} {B ob : Nat} {s s' : Int} {va va' vn vn' : Value} {A : List Bool} {es : List E} {a : Bool}
theorem BldT.obA (h : BldT w B ob s va vn A es) (hp : Pushed w w' B 4 va va' (A.map Value.bool) (.bool a)) : w'.heap[ob]? = some (.cells #[.int .i64 s, va, vn] 30 (0, 0)) := by
  rw [hp.grow.block ob h.lt fun e => block_apart h.acc h.at_ (by decide) e.symm]; exact h.at_
theorem BldT.pushA (h : BldT w B ob s va vn A es) (hp : Pushed w w' B 4 va va' (A.map Value.bool) (.bool a)) : BldT (w'.setCell ⟨ob, 1, none⟩ va') B ob s va' vn (A ++ [a]) es := by
  have hob := BldT.obA h hp
  have hl : Lst w' B 4 va' ((A ++ [a]).map Value.bool) := by rw [List.map_append]; exact hp.lst
  have he : LstE w' B vn es := h.edg.grown hp.grow fun k hk e => apartL h.acc h.edg (by decide) k e hk
  exact ⟨hl.setOther (block_apart hl hob (by decide)) _, he.setOther (apartE he hob (by decide)) _, blk_set hob, h.obB⟩
theorem BldT.setStart (h : BldT w B ob s va vn A es) (x : Int) : BldT (w.setCell ⟨ob, 0, none⟩ (.int .i64 x)) B ob x va vn A es :=
  ⟨h.acc.setOther (block_apart h.acc h.at_ (by decide)) _, h.edg.setOther (apartE h.edg h.at_ (by decide)) _, blk_set h.at_, h.obB⟩
end

/-- What is being put together: the numbers, and the result; all of it from block C on. -/
structure Tm (W0 : World) (C G Z n : Nat) (N : Nat → Int) (s : Int) (va vn : Value) (A : List Bool) (es : List E) (W : World) : Prop where
  low : Below C W0 W
  num : Lst W C 2 (.slice (some ⟨G, 0, none⟩) n n) (tv n N)
  bld : BldT W C Z s va vn A es
section
variable {W0 W W' : World} {C G Z n : Nat} {N : Nat → Int} {s : Int} {va va' vn vn' : Value} {A : List Bool} {es : List E} {a : Bool} {x : E}
theorem Tm.ltZ (h : Tm W0 C G Z n N s va vn A es W) : Z < W.heap.size := h.bld.lt
theorem Tm.ltG (h : Tm W0 C G Z n N s va vn A es W) : G < W.heap.size := h.num.lt rfl
theorem Tm.geG (h : Tm W0 C G Z n N s va vn A es W) : C ≤ G := h.num.ge rfl
theorem Tm.size (h : Tm W0 C G Z n N s va vn A es W) : C ≤ W.heap.size := by have := h.geG; have := h.ltG; omega
theorem Tm.below (h : Tm W0 C G Z n N s va vn A es W) (hb : Below W.heap.size W W') : Tm W0 C G Z n N s va vn A es W' := ⟨Below.trans h.low (hb.mono h.size), h.num.below hb, h.bld.below hb⟩
theorem Tm.alloc (h : Tm W0 C G Z n N s va vn A es W) (o : Obj) : Tm W0 C G Z n N s va vn A es (W.alloc o) := h.below ((Below.refl _ _).alloc (Nat.le_refl _) _)
theorem Tm.drew (h : Tm W0 C G Z n N s va vn A es W) : Tm W0 C G Z n N s va vn A es W.drew := h.below ((Below.refl _ _).drew)
theorem Tm.cell (h : Tm W0 C G Z n N s va vn A es W) {i : Nat} (hi : i < n) : W.cell? ⟨G, i, none⟩ = some (.int .i64 (N i)) := by
  rw [h.num.cellOf (i := i) (by rw [tv_length]; exact hi), tv_get]
theorem Tm.free (h : Tm W0 C G Z n N s va vn A es W) (i : Nat) : W.frozen? ⟨G, i, none⟩ = false := h.num.free i
theorem Tm.box (h : Tm W0 C G Z n N s va vn A es W) : (W.cell? ⟨Z, 0, none⟩ = some (.int .i64 s) ∧ W.cell? ⟨Z, 1, none⟩ = some va ∧ W.cell? ⟨Z, 2, none⟩ = some vn) ∧ W.frozen? ⟨Z, 0, none⟩ = false ∧ W.frozen? ⟨Z, 1, none⟩ = false ∧ W.frozen? ⟨Z, 2, none⟩ = false :=
  ⟨⟨(cell_of_block h.bld.at_ 0).1, (cell_of_block h.bld.at_ 1).1, (cell_of_block h.bld.at_ 2).1⟩, (cell_of_block h.bld.at_ 0).2, (cell_of_block h.bld.at_ 1).2, (cell_of_block h.bld.at_ 2).2⟩
theorem Tm.setNum (h : Tm W0 C G Z n N s va vn A es W) {i : Nat} (hi : i < n) (y : Int) : Tm W0 C G Z n (fun j => if j = i then y else N j) s va vn A es (W.setCell ⟨G, i, none⟩ (.int .i64 y)) :=
  ⟨h.low.setCell (p := ⟨G, i, none⟩) h.geG _, by have := h.num.set (i := i) (by rw [tv_length]; exact hi) (.int .i64 y); rwa [tv_set] at this,
    h.bld.acc.setOther (Lst.apart h.num h.bld.acc (by decide) G rfl) _, h.bld.edg.setOther (fun e => apartL h.num h.bld.edg (by decide) G e rfl) _,
    (Below.heap_setCell _ _ _ _ (fun e => block_apart h.num h.bld.at_ (by decide) (by rw [e]; rfl))).trans h.bld.at_, h.bld.obB⟩
theorem Tm.congr {N' : Nat → Int} (h : Tm W0 C G Z n N s va vn A es W) (e : ∀ i, i < n → N i = N' i) : Tm W0 C G Z n N' s va vn A es W := ⟨h.low, by rw [← tv_congr e]; exact h.num, h.bld⟩
theorem Tm.setStart (h : Tm W0 C G Z n N s va vn A es W) (y : Int) : Tm W0 C G Z n N y va vn A es (W.setCell ⟨Z, 0, none⟩ (.int .i64 y)) :=
  ⟨h.low.setCell (p := ⟨Z, 0, none⟩) h.bld.obB _, h.num.setOther (block_apart h.num h.bld.at_ (by decide)) _, BldT.setStart h.bld y⟩
theorem Tm.obA (h : Tm W0 C G Z n N s va vn A es W) (hp : Pushed W W' C 4 va va' (A.map Value.bool) (.bool a)) : (W'.cell? ⟨Z, 0, none⟩ = some (.int .i64 s) ∧ W'.cell? ⟨Z, 1, none⟩ = some va ∧ W'.cell? ⟨Z, 2, none⟩ = some vn) ∧ (W'.frozen? ⟨Z, 0, none⟩ = false ∧ W'.frozen? ⟨Z, 1, none⟩ = false ∧ W'.frozen? ⟨Z, 2, none⟩ = false) ∧ Z < W'.heap.size :=
  have hob := BldT.obA h.bld hp
  ⟨⟨(cell_of_block hob 0).1, (cell_of_block hob 1).1, (cell_of_block hob 2).1⟩, ⟨(cell_of_block hob 0).2, (cell_of_block hob 1).2, (cell_of_block hob 2).2⟩, lt_of_block hob⟩
theorem Tm.lowA (h : Tm W0 C G Z n N s va vn A es W) (hp : Pushed W W' C 4 va va' (A.map Value.bool) (.bool a)) : Below C W0 W' := below_grown h.low hp.grow h.size (fun k e => h.bld.acc.ge e)
theorem Tm.pushA (h : Tm W0 C G Z n N s va vn A es W) (hp : Pushed W W' C 4 va va' (A.map Value.bool) (.bool a)) : Tm W0 C G Z n N s va' vn (A ++ [a]) es (W'.setCell ⟨Z, 1, none⟩ va') :=
  have hnum : Lst W' C 2 (.slice (some ⟨G, 0, none⟩) n n) (tv n N) := h.num.grown hp.grow fun k hk => Lst.apart h.bld.acc h.num (by decide) k hk
  ⟨(h.lowA hp).setCell (p := ⟨Z, 1, none⟩) h.bld.obB _, hnum.setOther (block_apart hnum (BldT.obA h.bld hp) (by decide)) _, BldT.pushA h.bld hp⟩
theorem Tm.obE (h : Tm W0 C G Z n N s va vn A es W) (hp : PushedE W W' C vn vn' es x) : (W'.cell? ⟨Z, 0, none⟩ = some (.int .i64 s) ∧ W'.cell? ⟨Z, 1, none⟩ = some va ∧ W'.cell? ⟨Z, 2, none⟩ = some vn) ∧ (W'.frozen? ⟨Z, 0, none⟩ = false ∧ W'.frozen? ⟨Z, 1, none⟩ = false ∧ W'.frozen? ⟨Z, 2, none⟩ = false) ∧ Z < W'.heap.size :=
  have hob := BldT.obE h.bld hp
  ⟨⟨(cell_of_block hob 0).1, (cell_of_block hob 1).1, (cell_of_block hob 2).1⟩, ⟨(cell_of_block hob 0).2, (cell_of_block hob 1).2, (cell_of_block hob 2).2⟩, lt_of_block hob⟩
theorem Tm.cellE (h : Tm W0 C G Z n N s va vn A es W) (hp : PushedE W W' C vn vn' es x) {i : Nat} (hi : i < n) : W'.cell? ⟨G, i, none⟩ = some (.int .i64 (N i)) := by
  have hnum : Lst W' C 2 (.slice (some ⟨G, 0, none⟩) n n) (tv n N) := h.num.grown hp.grow fun k hk => apartL h.num h.bld.edg (by decide) k hk
  rw [hnum.cellOf (i := i) (by rw [tv_length]; exact hi), tv_get]
theorem Tm.lowE (h : Tm W0 C G Z n N s va vn A es W) (hp : PushedE W W' C vn vn' es x) : Below C W0 W' := below_pushE h.low h.bld.edg hp h.size
theorem Tm.pushE (h : Tm W0 C G Z n N s va vn A es W) (hp : PushedE W W' C vn vn' es x) : Tm W0 C G Z n N s va vn' A (es ++ [x]) (W'.setCell ⟨Z, 2, none⟩ vn') :=
  have hnum : Lst W' C 2 (.slice (some ⟨G, 0, none⟩) n n) (tv n N) := h.num.grown hp.grow fun k hk => apartL h.num h.bld.edg (by decide) k hk
  ⟨(h.lowE hp).setCell (p := ⟨Z, 2, none⟩) h.bld.obB _, hnum.setOther (block_apart hnum (BldT.obE h.bld hp) (by decide)) _, BldT.push h.bld hp⟩
end
end Go.Proofs.Ytjoiaenkmmmmpaa.TrimKit
