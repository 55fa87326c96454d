
/- What is appended: a list that is another's.
   Conditions: stated at each theorem. -/
import Derived.Test.YtcpcbmappcndcaaDoorFX5
import Derived.Test.YtcpcbmappcndcaaDoorFX6
import Derived.Test.YtcpcbmappcndcaaDoorFX27
import Derived.Test.YtcpcbmappcndcaaDoorFX9
import Derived.Test.YtcpcbmappcndcaaDoorFX20
import Derived.Test.YtcpcbmappcndcaaDoorFX25
namespace Go.Proofs.YtcpcbmappcndcaaDoor.Push
set_option linter.unusedVariables false
set_option linter.unusedSimpArgs false
open Go.RowKit Mem Copy Heap

theorem tv_snoc (c : Nat) (T : Nat → Int) : tv c T ++ [Value.int .i64 (T c)] = tv (c + 1) T := by unfold tv; rw [List.range_succ, List.map_append]; rfl
/-- The law for appending a list that is another's. -/
theorem wpList_pushs {P : Program} {w : World} {ops : Array Oper} {rest : List Oper} {o : Oper} {a : Act} {Q : Exit → Act → World → Prop} (hgd : o.guard = none) (s x : Operand) (t : TypeId)
    (ho : o.op = .call { callee := .builtin .append, args := #[s, x], argTypes := #[t, t] })
    (e : TypeId) (z : Value) (bytes : Nat) (ht : P.underlying t = some (.slice e)) (hinfo : (P.info? e).map (fun i => (i.zero, i.size, i.bytes)) = some (some z, 1, bytes)) (hzs : z.cells.size = 1) (hby : bytes ≤ 24)
    (B : Nat) (v : Value) (xs : List Value) (hown : Lst w B e v xs) (hB : B ≤ w.heap.size) (news : List Value) (h1 : ∀ u ∈ news, u.oneCell' = true) (hlen : xs.length + news.length ≤ 100000000) (hs : a.eval s = v) (ad : Addr) (m c : Nat) (hx : a.eval x = .slice (some ad) m c) (hm : news.length = m)
    (hnews : ∀ j u, news[j]? = some u → w.cell? (ad.add j) = some u)
    (h : ∀ v' w', Lst w' B e v' (xs ++ news) → w.grownBy w' v.ownBlock → wpList P ops Q rest (a.put o.dst v') w') : wpList P ops Q (o :: rest) a w := by
  obtain ⟨i, hi, hz, hsize, hbytes⟩ := info_parts hinfo
  refine wpList_append_own_at (P := P) _ hgd s x t ho B e i z 1 bytes ht hi hz hsize hbytes hzs (by decide) v xs.length xs hs hown ad m c news hx (by rw [hm, Nat.mul_one]) hnews h1 (by unfold maxLen; omega) ?_ hB ?_
  · have : (xs.length + m) * bytes ≤ 100000000 * 24 := Nat.mul_le_mul (by omega) hby
    omega
  · intro v' w' hown' hg _ _
    refine h v' w' ?_ hg
    unfold Lst
    rw [List.length_append, hm]
    exact hown'

end Go.Proofs.YtcpcbmappcndcaaDoor.Push
/- What the model's function that looks at the number of states hands back.
   Conditions: the relation's fields are slices. -/
namespace Go.Proofs.YtcpcbmappcndcaaDoor.SpecTold
set_option linter.unusedVariables false
set_option linter.unusedSimpArgs false
open Go.RowKit Mem Rel Bld

set_option maxHeartbeats 2000000 in
theorem told_few (k : Int) (aa ab : Option Addr) (n ca nb cb : Nat) (w : World) (hn : n ≤ 150) :
    Calls Tryd.prog 26 #[.agg #[.int .i64 k, .int .i64 0, .slice aa n ca, .slice ab nb cb]] w fun e w' => e = .returned (.tuple #[.agg #[.int .i64 k, .int .i64 0, .slice aa n ca, .slice ab nb cb], .int .i64 0]) ∧ Below w.heap.size w w' := by
  go_enter Tryd.func26, Tryd.ntmps26
  go_wp2
  exact bodyPost_ret (v := .tuple #[.agg #[.int .i64 k, .int .i64 0, .slice aa n ca, .slice ab nb cb], .int .i64 0]) (by simp [results, Tryd.results26, go_sem]) rfl ⟨rfl, ((Below.refl _ _).alloc (Nat.le_refl _) _).alloc (by simp) _⟩
theorem told_many (k : Int) (aa ab : Option Addr) (n ca nb cb : Nat) (w : World) (hn : 150 < n) (hm : n ≤ 1000000) :
    Calls Tryd.prog 26 #[.agg #[.int .i64 k, .int .i64 0, .slice aa n ca, .slice ab nb cb]] w fun e w' => e = .returned (.tuple #[.agg #[.int .i64 0, .int .i64 0, .slice none 0 0, .slice none 0 0], .int .i64 3]) ∧ Below w.heap.size w w' := by
  go_enter Tryd.func26, Tryd.ntmps26
  go_wp2
  exact bodyPost_ret (v := .tuple #[.agg #[.int .i64 0, .int .i64 0, .slice none 0 0, .slice none 0 0], .int .i64 3]) (by simp [results, Tryd.results26, go_sem]) rfl ⟨rfl, ((Below.refl _ _).alloc (Nat.le_refl _) _).alloc (by simp) _⟩
end Go.Proofs.YtcpcbmappcndcaaDoor.SpecTold
/- What the model's TidyRelation answers: a relation in memory of its own, and a code.
   Conditions: the relation is read as XRel's text says. -/
namespace Go.Proofs.YtcpcbmappcndcaaDoor.SpecTidyRel
set_option linter.unusedVariables false
set_option linter.unusedSimpArgs false
open Go.RowKit Mem Copy Rel Valid Heap Columns TidyAuto TidyRight SpecRight SpecTidied SpecTold ToL Bld

end Go.Proofs.YtcpcbmappcndcaaDoor.SpecTidyRel
/- What the program's AddTape and InverseRelation answer: a relation in memory of its own, and a code.
   Conditions: the relation is read as XRel's text says; the type's handle lies where errors.As reads it. -/
namespace Go.Proofs.YtcpcbmappcndcaaDoor.TapeFn
set_option linter.unusedVariables false
set_option linter.unusedSimpArgs false
set_option maxRecDepth 100000
open Go.RowKit Go.Maps Mem Copy Rel Valid Heap Bld Columns ColMath SpecFiner Numbers TidyMath TidyAuto TidyRight SpecRight ToL SpecTidyRel ImplRight ImplTidied ErrCode OppImpl Automaton TapeMath Reread RereadI MoveI TapeI WithoutI AddI StepI

/-- What is answered: a code that comes first, or the tidy relation of an automaton. -/
def ansC (c : Int) (l : L) : Int := if c = 0 then (if fewB l 150 = true then 0 else 3) else c
def ansK (c : Int) (l : L) : Int := if c = 0 then fewK l 150 else 0
def ansA (c : Int) (l : L) : List Bool := if c = 0 then fewA l 150 else []
def ansN (c : Int) (l : L) : List (List Int) := if c = 0 then fewN l 150 else []
theorem ans_no {c : Int} (l : L) (h : c ≠ 0) : ansC c l = c ∧ ansK c l = 0 ∧ ansA c l = [] ∧ ansN c l = [] := ⟨if_neg h, if_neg h, if_neg h, if_neg h⟩
theorem ans_yes {c : Int} (l : L) (h : c = 0) : ansC c l = (if fewB l 150 = true then 0 else 3) ∧ ansK c l = fewK l 150 ∧ ansA c l = fewA l 150 ∧ ansN c l = fewN l 150 := ⟨if_pos h, if_pos h, if_pos h, if_pos h⟩
theorem few_no (l : L) (h : fewB l 150 = false) : fewK l 150 = 0 ∧ fewA l 150 = [] ∧ fewN l 150 = [] := by unfold fewK fewA fewN; rw [h]; exact ⟨rfl, rfl, rfl⟩

/-- The code of AddTape that comes first, and its automaton. -/
def addC (r : R) (x : Int) : Int := if okB r = true then (if 0 ≤ x ∧ x ≤ r.tapes ∧ r.tapes ≠ 3 then 0 else 2) else 1
def addL (r : R) (x : Int) : L := reL (toL r) ((toL r).k + 1) (leftN ((toL r).k + 1) x.toNat)
/-- The code of InverseRelation that comes first, and its automaton. -/
def invC (r : R) : Int := if okB r = true then (if r.tapes = 2 then 0 else 2) else 1
def invL (r : R) : L := reL (toL r) (toL r).k (putN [1, 0])

end Go.Proofs.YtcpcbmappcndcaaDoor.TapeFn
/- What the model tells of a tidy relation: the relation, or nothing and the code of a limit.
   Conditions: stated at each theorem. -/
namespace Go.Proofs.YtcpcbmappcndcaaDoor.ToldI
set_option linter.unusedVariables false
set_option linter.unusedSimpArgs false
set_option maxRecDepth 100000
open Go.RowKit Mem Copy Rel Valid Heap Bld TidyMath TidyAuto TidyRight ToL SpecRight SpecTidied SpecTold SpecTidyRel ImplTidied

theorem tidy_most {l : L} (hl : l.Ok) (hn : l.acc.length ≤ 5000) : (tidyAcc l).length ≤ 1000000 := by
  have h1 : (tidyAcc l).length = (tid (auM l) 0).length := by unfold tidyAcc TidyAuto.tidAcc; rw [List.length_map]
  have h2 : (tid (auM l) 0).length ≤ TidyAuto.most (auM l) := TidyAuto.met_few (fits hl) _
  have h3 := TidyAuto.cn_le (auM l) (TidyAuto.stop (auM l) + 1)
  have h4 : (auM l).n = (F l).length + 1 := rfl
  have h5 := F_few hl
  unfold TidyAuto.most at h2
  omega
theorem toldI (l : L) (hm : (tidyAcc l).length ≤ 1000000) (a4 b4 : Option Addr) (n4 c4 m4 d4 : Nat) (w : World) (B : Nat) (hbu : Built w B (.slice a4 n4 c4) (.slice b4 m4 d4) (tidyAcc l) (tidyNext l)) :
    Calls Tryd.prog 26 #[.agg #[.int .i64 (l.k : Nat), .int .i64 0, .slice a4 n4 c4, .slice b4 m4 d4]] w fun e w' => ∃ va vn, e = .returned (.tuple #[.agg #[.int .i64 (fewK l 150), .int .i64 0, va, vn], .int .i64 (if fewB l 150 = true then 0 else 3)]) ∧ Built w' B va vn (fewA l 150) (fewN l 150) ∧ Below w.heap.size w w' := by
  obtain ⟨a5, n5, c5, e5, hn5⟩ := hbu.acc.shape'
  injection e5 with _ e5 _
  have hn4 : n4 = (tidyAcc l).length := by rw [e5, hn5.out, List.length_map]
  by_cases hf : (tidyAcc l).length ≤ 150
  · have hb : fewB l 150 = true := decide_eq_true hf
    unfold fewK fewA fewN
    rw [if_pos hb, if_pos hb, if_pos hb, if_pos hb]
    exact (told_few _ _ _ _ _ _ _ w (by omega)).mono fun e w' ⟨he, hb⟩ => ⟨_, _, he, hbu.below hb, hb⟩
  · have hb : fewB l 150 = false := decide_eq_false hf
    unfold fewK fewA fewN
    rw [hb]
    exact (told_many _ _ _ _ _ _ _ w (by omega) (by omega)).mono fun e w' ⟨he, hb⟩ => ⟨_, _, he, ImplTidied.built_none _ _, hb⟩
theorem box_ptr {w W : World} {B b : Nat} {va vn : Value} {r : R} (h : RelAt w B (.agg #[.int .i64 r.tapes, .int .i64 r.start, va, vn]) r) (hB : B ≤ w.heap.size) (hb : Below w.heap.size w W) (hx : W.heap[b]? = some (.cells #[.int .i64 r.tapes, .int .i64 r.start, va, vn] 27 (0, 0))) : RelPtr W W.heap.size b r := by
  obtain ⟨va', vn', e, ha, hn⟩ := h
  simp at e
  obtain ⟨rfl, rfl⟩ := e
  have y0 := cells_get hx 0
  have y1 := cells_get hx 1
  have y2 := cells_get hx 2
  have y3 := cells_get hx 3
  simp at y0 y1 y2 y3
  exact ⟨_, _, y0, y1, y2, y3, (ha.below hb hB).mono (Nat.le_trans hB hb.size), (hn.below hb hB).mono (Nat.le_trans hB hb.size)⟩
end Go.Proofs.YtcpcbmappcndcaaDoor.ToldI
