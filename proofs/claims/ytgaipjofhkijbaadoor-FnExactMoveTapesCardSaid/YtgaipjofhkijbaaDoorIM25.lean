
/- What the program's OppositeRelation answers: a relation in memory of its own, and a code.
   Conditions: the relation is read as XRel's text says; the type's handle lies where errors.As reads it. -/
import Derived.Test.YtgaipjofhkijbaaDoorIM22
import Derived.Test.YtgaipjofhkijbaaDoorIM24
import Derived.Test.YtgaipjofhkijbaaDoorIM14
import Derived.Test.YtgaipjofhkijbaaDoorIM15
namespace Go.Proofs.YtgaipjofhkijbaaDoor.OppImpl
set_option linter.unusedVariables false
set_option linter.unusedSimpArgs false
set_option maxRecDepth 100000
open Go.RowKit Mem Copy Rel Valid Heap Columns Bld TidyAuto TidyRight SpecRight ToL SpecTidyRel ImplRight ImplTidied CloneB ErrAs ErrCode

/-- The automaton that takes what another one does not. -/
def flipL (l : L) : L := { l with acc := l.acc.map fun b => !b }
def flipR (r : R) : R := { r with accept := r.accept.map fun b => !b }
theorem flipL_ok {l : L} (h : l.Ok) : (flipL l).Ok := by
  have e : (flipL l).acc.length = l.acc.length := by simp [flipL]
  exact ⟨h.k0, h.k3, by rw [e]; exact h.st, by rw [e]; exact h.len, fun s hs => h.row s (by rw [e] at hs; exact hs), fun s hs c hc => by rw [e] at hs ⊢; exact h.lt s hs c hc⟩
theorem flip_rel {r : R} (h : relOf (toL r) = r) : relOf (flipL (toL r)) = flipR r := by
  unfold flipR
  conv => rhs; rw [← h]
  rfl

/-- Truth values by a rule. -/
def bvF (n : Nat) (f : Nat → Bool) : List Value := (List.range n).map fun i => Value.bool (f i)
theorem bvF_length (n : Nat) (f : Nat → Bool) : (bvF n f).length = n := by simp [bvF]
theorem bvF_set (n : Nat) (f : Nat → Bool) (k : Nat) (x : Bool) : (bvF n f).set k (.bool x) = bvF n fun i => if i = k then x else f i := by
  apply List.ext_getElem
  · simp [bvF]
  · intro i h1 h2
    simp [bvF, List.getElem_set]
    by_cases e : k = i
    · simp [e]
    · simp [e, Ne.symm e]
theorem bvF_congr {n : Nat} {f g : Nat → Bool} (h : ∀ i, i < n → f i = g i) : bvF n f = bvF n g :=
  List.map_congr_left fun i hi => by rw [h i (List.mem_range.1 hi)]
theorem bvF_list (xs : List Bool) : xs.map Value.bool = bvF xs.length fun i => xs.getD i false := by
  apply List.ext_getElem
  · simp [bvF]
  · intro i h1 h2
    have h3 : i < xs.length := by simpa using h1
    simp [bvF, List.getD, h3]
theorem bvF_flip (xs : List Bool) : bvF xs.length (fun i => !xs.getD i false) = (xs.map fun b => !b).map Value.bool := by
  apply List.ext_getElem
  · simp [bvF]
  · intro i h1 h2
    have h3 : i < xs.length := by simpa [bvF] using h1
    simp [bvF, List.getD, h3]

/-- An outcome: the relation, or nothing and the code of a limit. -/
theorem outcomeI (Q : Bool) (K : Int) (aa ab : Option Addr) (na ca nb cb : Nat) (n : Int) (w : World) (hg : Laid w) (B : Nat) (A : List Bool) (N : List (List Int)) (hbu : Built w B (.slice aa na ca) (.slice ab nb cb) A N) (h0 : Q = false → K = 0 ∧ A = [] ∧ N = []) :
    Calls Tryd.prog 31 #[.agg #[.int .i64 K, .int .i64 0, .slice aa na ca, .slice ab nb cb], errV Q n] w fun e w' => ∃ va vn, e = .returned (.tuple #[.agg #[.int .i64 K, .int .i64 0, va, vn], .int .i64 (if Q = true then 0 else 3)]) ∧ Built w' B va vn A N ∧ Below w.heap.size w w' := by
  cases Q with
  | true => exact (outcome_ok K aa ab na ca nb cb w).mono fun e w' ⟨he, hb⟩ => ⟨_, _, he, hbu.below hb, hb⟩
  | false =>
    obtain ⟨rfl, rfl, rfl⟩ := h0 rfl
    exact (outcome_no 0 aa ab na ca nb cb w n hg).mono fun e w' ⟨he, hb⟩ => ⟨_, _, he, ImplTidied.built_none _ _, hb⟩

def oppC (r : R) : Int := if okB r = true then (if fewB (flipL (toL r)) 150 = true then 0 else 3) else 1
def oppK (r : R) : Int := if okB r = true then fewK (flipL (toL r)) 150 else 0
def oppA (r : R) : List Bool := if okB r = true then fewA (flipL (toL r)) 150 else []
def oppN (r : R) : List (List Int) := if okB r = true then fewN (flipL (toL r)) 150 else []
theorem opp_of {r : R} (h : okB r = true) : oppK r = fewK (flipL (toL r)) 150 ∧ oppA r = fewA (flipL (toL r)) 150 ∧ oppN r = fewN (flipL (toL r)) 150 ∧ oppC r = if fewB (flipL (toL r)) 150 = true then 0 else 3 :=
  ⟨if_pos h, if_pos h, if_pos h, if_pos h⟩

end Go.Proofs.YtgaipjofhkijbaaDoor.OppImpl
/- What the program's AddTape and InverseRelation answer: a relation in memory of its own, and a code.
   Conditions: the relation is read as XRel's text says; the type's handle lies where errors.As reads it. -/
namespace Go.Proofs.YtgaipjofhkijbaaDoor.TapeFn
set_option linter.unusedVariables false
set_option linter.unusedSimpArgs false
set_option maxRecDepth 100000
open Go.RowKit Go.Maps Mem Copy Rel Valid Heap Bld Columns ColMath SpecFiner Numbers TidyMath TidyAuto TidyRight SpecRight ToL SpecTidyRel ImplRight ImplTidied ErrCode OppImpl Automaton TapeMath Reread RereadI MoveI TapeI WithoutI AddI StepI

/-- What is answered: a code that comes first, or the tidy relation of an automaton. -/
def ansC (c : Int) (l : L) : Int := if c = 0 then (if fewB l 150 = true then 0 else 3) else c
def ansK (c : Int) (l : L) : Int := if c = 0 then fewK l 150 else 0
def ansA (c : Int) (l : L) : List Bool := if c = 0 then fewA l 150 else []
def ansN (c : Int) (l : L) : List (List Int) := if c = 0 then fewN l 150 else []
theorem ans_no {c : Int} (l : L) (h : c ≠ 0) : ansC c l = c ∧ ansK c l = 0 ∧ ansA c l = [] ∧ ansN c l = [] := ⟨if_neg h, if_neg h, if_neg h, if_neg h⟩
theorem ans_yes {c : Int} (l : L) (h : c = 0) : ansC c l = (if fewB l 150 = true then 0 else 3) ∧ ansK c l = fewK l 150 ∧ ansA c l = fewA l 150 ∧ ansN c l = fewN l 150 := ⟨if_pos h, if_pos h, if_pos h, if_pos h⟩
theorem few_no (l : L) (h : fewB l 150 = false) : fewK l 150 = 0 ∧ fewA l 150 = [] ∧ fewN l 150 = [] := by unfold fewK fewA fewN; rw [h]; exact ⟨rfl, rfl, rfl⟩

/-- The code of AddTape that comes first, and its automaton. -/
def addC (r : R) (x : Int) : Int := if okB r = true then (if 0 ≤ x ∧ x ≤ r.tapes ∧ r.tapes ≠ 3 then 0 else 2) else 1
def addL (r : R) (x : Int) : L := reL (toL r) ((toL r).k + 1) (leftN ((toL r).k + 1) x.toNat)
/-- The code of InverseRelation that comes first, and its automaton. -/
def invC (r : R) : Int := if okB r = true then (if r.tapes = 2 then 0 else 2) else 1
def invL (r : R) : L := reL (toL r) (toL r).k (putN [1, 0])

set_option maxHeartbeats 8000000 in
theorem invertedI (l : L) (hl : l.Ok) (h2 : l.k = 2) (v : Value) (w : World) (B : Nat) (h : RelAt w B v (relOf l)) (hB : B ≤ w.heap.size) (hn : l.acc.length ≤ 100000) :
    Calls Tryd.prog 32 #[v] w fun e w' => StepR (reL l l.k (putN [1, 0])) w e w' := by
  unfold StepR
  have HMV := Lib.hid (fun W ov (hb : Below w.heap.size w W) (ho : Ints W W.heap.size ov [1, 0]) => movedI l hl [1, 0] (by rw [h2]; simp [orders]) v ov W W.heap.size ((h.below hb hB).mono (Nat.le_trans hB hb.size)) ho (Nat.le_refl _) hn)
  obtain ⟨L1, hL1⟩ : ∃ x, x = reL l l.k (putN [1, 0]) := ⟨_, rfl⟩
  rw [← hL1] at HMV ⊢
  obtain ⟨K, hK⟩ : ∃ K, K = fewK L1 150 := ⟨_, rfl⟩
  obtain ⟨A, hA⟩ : ∃ A, A = fewA L1 150 := ⟨_, rfl⟩
  obtain ⟨N, hN⟩ : ∃ N, N = fewN L1 150 := ⟨_, rfl⟩
  obtain ⟨Q, hQ⟩ : ∃ Q, Q = fewB L1 150 := ⟨_, rfl⟩
  rw [← hK, ← hA, ← hN, ← hQ] at HMV
  rw [← hK, ← hA, ← hN, ← hQ]
  clear hK hA hN hQ hL1
  obtain ⟨va, vn, rfl, ha, hx⟩ := h
  obtain ⟨aa, ba, oa, ca, rfl, -, -, -⟩ := ha
  obtain ⟨-, ⟨ab, bb, ob, cb, rfl, -, -, -⟩, -⟩ := hx
  obtain ⟨k, hk⟩ : ∃ k : Int, k = (relOf l).tapes := ⟨_, rfl⟩
  obtain ⟨st, hs⟩ : ∃ st : Int, st = (relOf l).start := ⟨_, rfl⟩
  obtain ⟨na, hna⟩ : ∃ na, na = (relOf l).accept.length := ⟨_, rfl⟩
  obtain ⟨nb, hnb⟩ : ∃ nb, nb = (relOf l).next.length := ⟨_, rfl⟩
  rw [← hk, ← hs, ← hna, ← hnb] at HMV
  rw [← hk, ← hs, ← hna, ← hnb]
  clear hk hs hna hnb hB hn hl h2
  obtain ⟨W0, hW0⟩ : ∃ W0, W0 = ((w.alloc (.cells #[.int .i64 k, .int .i64 st, .slice aa na ca, .slice ab nb cb] 27)).alloc (.cells #[Value.int .i64 0, .int .i64 0, .slice none 0 0, .slice none 0 0] 27)) := ⟨_, rfl⟩
  have hk0 : K0 w #[.int .i64 k, .int .i64 st, .slice aa na ca, .slice ab nb cb] W0 := by rw [hW0]; exact Below.refl _ _
  have hk1 : K0 w #[.int .i64 k, .int .i64 st, .slice aa na ca, .slice ab nb cb] (W0.alloc (.cells #[.int .i64 1, .int .i64 0] 2)) := Below.alloc hk0 (K0.size hk0) _
  have HK1 := Lib.hid hk1
  have HC := Lib.hid (HMV.out (W0.alloc (.cells #[.int .i64 1, .int .i64 0] 2)) (.slice (some ⟨W0.heap.size, 0, none⟩) 2 2) (K0.base hk1) (by
    have hh := heap_alloc_new W0 (.cells #[.int .i64 1, .int .i64 0] 2)
    refine ⟨_, W0.heap.size, 0, 2, rfl, by unfold maxLen; simp, fun _ => ⟨rfl, by rw [size_alloc']; omega⟩, fun i hi => ?_⟩
    rw [cells_get hh]
    have : i = 0 ∨ i = 1 := by simp at hi; omega
    rcases this with rfl | rfl <;> rfl))
  have HWE := Lib.hid hW0
  have hs0 : W0.heap.size = w.heap.size + 2 := by rw [hW0, size_alloc', size_alloc']
  have HS0 := Lib.hid hs0
  clear HMV hk0 hk1 hW0 hs0
  go_enter Tryd.func32, Tryd.ntmps32
  go_wp2_with fail
  rw [← HWE.out, show w.heap.size + 1 + 1 = W0.heap.size from HS0.out.symm]
  obtain ⟨Z, hZ⟩ : ∃ Z, Z = w.heap.size + 1 := ⟨_, rfl⟩
  have HBASE := Lib.hid (K0.base HK1.out)
  have HZR := Lib.hid (show (W0.alloc (.cells #[.int .i64 1, .int .i64 0] 2)).heap[Z]? = some (.cells #[Value.int .i64 0, .int .i64 0, .slice none 0 0, .slice none 0 0] 27 (0, 0)) by rw [hZ]; exact K0.res HK1.out)
  have HLZ := Lib.hid (show Z < (W0.alloc (.cells #[.int .i64 1, .int .i64 0] 2)).heap.size by have := K0.size HK1.out; omega)
  have HZW := Lib.hid (show w.heap.size ≤ Z by omega)
  have HZE := Lib.hid (show w.heap.size + 1 = Z by omega)
  clear hZ
  refine HC.out.mono ?_
  rintro e w3 ⟨va, vn, rfl, hbu, hb3⟩
  have HR3 := Lib.hid (show Res0 w Z w3 from ⟨HBASE.out.trans (hb3.mono HBASE.out.size), by rw [hb3.block Z HLZ.out]; exact HZR.out, HZW.out⟩)
  have HB3 := Lib.hid (show Built w3 (Z + 1) va vn A N from hbu.mono HLZ.out)
  clear hb3 hbu
  have hres := HR3.out.res
  obtain ⟨a7, n7, c7, rfl, -⟩ := HB3.out.acc.shape'
  obtain ⟨items7, -, hnx7, -⟩ := HB3.out.rows
  obtain ⟨b7, m7, d7, rfl, -⟩ := hnx7.shape'
  have r0 := cells_get hres 0
  have r1 := cells_get hres 1
  have r2 := cells_get hres 2
  have r3 := cells_get hres 3
  have f0 := cells_free hres 0
  have f1 := cells_free hres 1
  have f2 := cells_free hres 2
  have f3 := cells_free hres 3
  have hlS := HR3.out.lt
  have p0 := cells_set hres 0 (.int .i64 K)
  have p1 := cells_set p0 1 (.int .i64 0)
  have p2 := cells_set p1 2 (.slice a7 n7 c7)
  have p3 := cells_set p2 3 (.slice b7 m7 d7)
  simp at r0 r1 r2 r3 p3
  have g0 := cells_get p3 0
  have g1 := cells_get p3 1
  have g2 := cells_get p3 2
  have g3 := cells_get p3 3
  simp at g0 g1 g2 g3
  have HG := Lib.hid (And.intro g0 (And.intro g1 (And.intro g2 g3)))
  clear p0 p1 p2 p3 g0 g1 g2 g3 hres hnx7
  rw [HZE.out]
  go_wp2_with fail
  obtain ⟨g0, g1, g2, g3⟩ := HG.out
  refine bodyPost_ret (v := .tuple #[.agg #[.int .i64 K, .int .i64 0, .slice a7 n7 c7, .slice b7 m7 d7], errV Q 150]) (by simp [results, Tryd.results32, go_sem, g0, g1, g2, g3]) rfl ⟨.slice a7 n7 c7, .slice b7 m7 d7, rfl, ?_, ?_⟩
  · have hZ1 : Z < Z + 1 := Nat.lt_succ_self _
    exact (((((HB3.out.setLow (a := ⟨Z, 0, none⟩) hZ1 _).setLow (a := ⟨Z, 1, none⟩) hZ1 _).setLow (a := ⟨Z, 2, none⟩) hZ1 _).setLow (a := ⟨Z, 3, none⟩) hZ1 _).mono (by have := HZW.out; omega))
  · exact ((((HR3.out.base.setCell (p := ⟨Z, 0, none⟩) HR3.out.hR _).setCell (p := ⟨Z, 1, none⟩) HR3.out.hR _).setCell (p := ⟨Z, 2, none⟩) HR3.out.hR _).setCell (p := ⟨Z, 3, none⟩) HR3.out.hR _)

set_option maxHeartbeats 8000000 in
theorem implInverse (v : Value) (r : R) (w : World) (B : Nat) (h : RelAt w B v r) (hB : B ≤ w.heap.size) (hg : Laid w) :
    Calls Tryd.prog 10 #[v] w fun e w' => ∃ va vn, e = .returned (.tuple #[.agg #[.int .i64 (ansK (invC r) (invL r)), .int .i64 0, va, vn], .int .i64 (ansC (invC r) (invL r))]) ∧ Built w' w.heap.size va vn (ansA (invC r) (invL r)) (ansN (invC r) (invL r)) ∧ Below w.heap.size w w' := by
  have HV := Lib.hid (fun W (hb : Below w.heap.size w W) => ValidImpl.implValid v r W B (h.below hb hB) (Nat.le_trans hB hb.size))
  have HGL := Lib.hid (fun W (hb : Below w.heap.size w W) => hg.below hb)
  have HIN := Lib.hid (fun (hok : okB r = true) (h2 : r.tapes = 2) W (hb : Below w.heap.size w W) => (show Calls Tryd.prog 32 #[v] W (fun e w' => StepR (invL r) W e w') from by
    have e1 := okL hok
    exact invertedI (toL r) e1.1.2 (by show r.tapes.toNat = 2; rw [h2]; rfl) v W W.heap.size (by rw [e1.1.1]; exact (h.below hb hB).mono (Nat.le_trans hB hb.size)) (Nat.le_refl _) (by have := e1.2; omega)))
  unfold StepR at HIN
  have HN1 := Lib.hid (fun (hok : okB r = false) => show ansC (invC r) (invL r) = 1 ∧ ansK (invC r) (invL r) = 0 ∧ ansA (invC r) (invL r) = [] ∧ ansN (invC r) (invL r) = [] from by
    have e : invC r = 1 := by simp [invC, hok]
    have := ans_no (invL r) (c := invC r) (by rw [e]; decide)
    rw [e] at this ⊢; exact this)
  have HN2 := Lib.hid (fun (hok : okB r = true) (h2 : r.tapes ≠ 2) => show ansC (invC r) (invL r) = 2 ∧ ansK (invC r) (invL r) = 0 ∧ ansA (invC r) (invL r) = [] ∧ ansN (invC r) (invL r) = [] from by
    have e : invC r = 2 := by simp [invC, hok, h2]
    have := ans_no (invL r) (c := invC r) (by rw [e]; decide)
    rw [e] at this ⊢; exact this)
  have HN3 := Lib.hid (fun (hok : okB r = true) (h2 : r.tapes = 2) => show ansC (invC r) (invL r) = (if fewB (invL r) 150 = true then 0 else 3) ∧ ansK (invC r) (invL r) = fewK (invL r) 150 ∧ ansA (invC r) (invL r) = fewA (invL r) 150 ∧ ansN (invC r) (invL r) = fewN (invL r) 150 from by
    have e : invC r = 0 := by simp [invC, hok, h2]
    exact ans_yes (invL r) e)
  have HF := Lib.hid (few_no (invL r))
  obtain ⟨cC, hcC⟩ : ∃ x, x = ansC (invC r) (invL r) := ⟨_, rfl⟩
  obtain ⟨cK, hcK⟩ : ∃ x, x = ansK (invC r) (invL r) := ⟨_, rfl⟩
  obtain ⟨cA, hcA⟩ : ∃ x, x = ansA (invC r) (invL r) := ⟨_, rfl⟩
  obtain ⟨cN, hcN⟩ : ∃ x, x = ansN (invC r) (invL r) := ⟨_, rfl⟩
  rw [← hcC, ← hcK, ← hcA, ← hcN] at HN1 HN2 HN3 ⊢
  obtain ⟨L1, hL1⟩ : ∃ x, x = invL r := ⟨_, rfl⟩
  rw [← hL1] at HIN HN3 HF
  obtain ⟨q, hq⟩ : ∃ x, x = okB r := ⟨_, rfl⟩
  rw [← hq] at HV HIN HN1 HN2 HN3
  clear hcC hcK hcA hcN hL1 hq hg
  obtain ⟨va, vn, rfl, ha, hx⟩ := h
  obtain ⟨aa, ba, oa, ca, rfl, -, -, -⟩ := ha
  obtain ⟨-, ⟨ab, bb, ob, cb, rfl, -, -, -⟩, -⟩ := hx
  obtain ⟨k, hk⟩ : ∃ k : Int, k = r.tapes := ⟨_, rfl⟩
  obtain ⟨st, hs⟩ : ∃ st : Int, st = r.start := ⟨_, rfl⟩
  obtain ⟨na, hna⟩ : ∃ na, na = r.accept.length := ⟨_, rfl⟩
  obtain ⟨nb, hnb⟩ : ∃ nb, nb = r.next.length := ⟨_, rfl⟩
  rw [← hk, ← hs, ← hna, ← hnb] at HV HIN
  rw [← hk] at HN2 HN3
  rw [← hk, ← hs, ← hna, ← hnb]
  have HK0 := Lib.hid (show K0 w #[.int .i64 k, .int .i64 st, .slice aa na ca, .slice ab nb cb] ((w.alloc (.cells #[.int .i64 k, .int .i64 st, .slice aa na ca, .slice ab nb cb] 27)).alloc (.cells #[Value.int .i64 0, .int .i64 0, .slice none 0 0, .slice none 0 0] 27)) from Below.refl _ _)
  have HV1 := Lib.hid (HV.out _ (K0.base HK0.out))
  clear hk hs hna hnb HV hB
  go_enter Tryd.func10, Tryd.ntmps10
  go_wp2_with fail
  refine HV1.out.mono ?_
  rintro e w3 ⟨rfl, hb3⟩
  have hk3 : K0 w #[.int .i64 k, .int .i64 st, .slice aa na ca, .slice ab nb cb] w3 := by
    have h1 := hb3
    rw [size_alloc', size_alloc'] at h1
    exact h1
  have HK3 := Lib.hid hk3
  have r0 := cells_get (K0.res hk3) 0
  have r1 := cells_get (K0.res hk3) 1
  have r2 := cells_get (K0.res hk3) 2
  have r3 := cells_get (K0.res hk3) 3
  have f0 := cells_free (K0.res hk3) 0
  have f1 := cells_free (K0.res hk3) 1
  have f2 := cells_free (K0.res hk3) 2
  have f3 := cells_free (K0.res hk3) 3
  have hlS := lt_of_block (K0.res hk3)
  have x0 := cells_get (K0.box hk3) 0
  have x1 := cells_get (K0.box hk3) 1
  have x2 := cells_get (K0.box hk3) 2
  have x3 := cells_get (K0.box hk3) 3
  simp at r0 r1 r2 r3 x0 x1 x2 x3
  clear hb3 hk3 HV1 HK0
  cases q with
  | false =>
    have HNO := Lib.hid (HN1.out rfl)
    clear HN1 HN2 HN3 HIN HF HGL
    obtain ⟨rfl, rfl, rfl, rfl⟩ := HNO.out
    go_wp2_with fail
    obtain ⟨g0, g1, g2, g3⟩ := res4 (a := .int .i64 0) (b := .int .i64 0) (c := .slice none 0 0) (d := .slice none 0 0) (K0.res HK3.out)
    refine bodyPost_ret (v := .tuple #[.agg #[.int .i64 0, .int .i64 0, .slice none 0 0, .slice none 0 0], .int .i64 1]) (by simp [results, Tryd.results10, go_sem, g0, g1, g2, g3]) rfl ⟨.slice none 0 0, .slice none 0 0, rfl, ImplTidied.built_none _ _, ?_⟩
    exact set4_below (K0.base HK3.out) (Nat.le_succ _)
  | true =>
    by_cases h2 : k = 2
    · have HYE := Lib.hid (HN3.out rfl h2)
      have HI3 := Lib.hid (HIN.out rfl h2 w3 (K0.base HK3.out))
      clear HN1 HN2 HN3 HIN
      subst h2
      obtain ⟨eC, eK, eA, eN⟩ := HYE.out
      rw [← eK, ← eA, ← eN] at HI3 HF
      obtain ⟨Q, hQ⟩ : ∃ Q, Q = fewB L1 150 := ⟨_, rfl⟩
      rw [← hQ] at HI3 HF eC
      have HEC := Lib.hid eC
      clear hQ eC eK eA eN HYE
      go_wp2_with fail
      refine HI3.out.mono ?_
      rintro e w4 ⟨va, vn, rfl, hbu, hb4⟩
      obtain ⟨a4, n4, c4, rfl, -⟩ := hbu.acc.shape'
      obtain ⟨items4, -, hnx4, -⟩ := hbu.rows
      obtain ⟨b4, m4, d4, rfl, -⟩ := hnx4.shape'
      have HK4 := Lib.hid (show K0 w #[.int .i64 2, .int .i64 st, .slice aa na ca, .slice ab nb cb] w4 from Below.trans HK3.out (hb4.mono (K0.size HK3.out)))
      have HO := Lib.hid (outcomeI Q cK a4 b4 n4 c4 m4 d4 150 w4 (HGL.out _ (K0.base HK4.out)) w3.heap.size cA cN hbu HF.out)
      rw [← HEC.out] at HO
      clear hbu hb4 hnx4 HI3 HF HGL HEC r0 r1 r2 r3 f0 f1 f2 f3 hlS x0 x1 x2 x3
      go_wp2_with fail
      refine HO.out.mono ?_
      rintro e w5 ⟨va, vn, rfl, hbu, hb5⟩
      have HBU := Lib.hid (show Built w5 (w.heap.size + 2) va vn cA cN from hbu.mono (K0.size HK3.out))
      obtain ⟨a4, n4, c4, rfl, -⟩ := hbu.acc.shape'
      obtain ⟨items4, -, hnx4, -⟩ := hbu.rows
      obtain ⟨b4, m4, d4, rfl, -⟩ := hnx4.shape'
      have hk3 : K0 w #[.int .i64 2, .int .i64 st, .slice aa na ca, .slice ab nb cb] w5 := Below.trans HK4.out (hb5.mono (K0.size HK4.out))
      have HK5 := Lib.hid hk3
      have r0 := cells_get (K0.res hk3) 0
      have r1 := cells_get (K0.res hk3) 1
      have r2 := cells_get (K0.res hk3) 2
      have r3 := cells_get (K0.res hk3) 3
      have f0 := cells_free (K0.res hk3) 0
      have f1 := cells_free (K0.res hk3) 1
      have f2 := cells_free (K0.res hk3) 2
      have f3 := cells_free (K0.res hk3) 3
      have hlS := lt_of_block (K0.res hk3)
      have x0 := cells_get (K0.box hk3) 0
      have x1 := cells_get (K0.box hk3) 1
      have x2 := cells_get (K0.box hk3) 2
      have x3 := cells_get (K0.box hk3) 3
      simp at r0 r1 r2 r3 x0 x1 x2 x3
      clear hbu hb5 hnx4 HO hk3
      go_wp2_with fail
      obtain ⟨g0, g1, g2, g3⟩ := res4 (a := .int .i64 cK) (b := .int .i64 0) (c := .slice a4 n4 c4) (d := .slice b4 m4 d4) (K0.res HK5.out)
      refine bodyPost_ret (v := .tuple #[.agg #[.int .i64 cK, .int .i64 0, .slice a4 n4 c4, .slice b4 m4 d4], .int .i64 cC]) (by simp [results, Tryd.results10, go_sem, g0, g1, g2, g3]) rfl ⟨.slice a4 n4 c4, .slice b4 m4 d4, rfl, ?_, ?_⟩
      · exact (set4_built HBU.out (by omega)).mono (by omega)
      · exact set4_below (K0.base HK5.out) (Nat.le_succ _)
    · have HNO := Lib.hid (HN2.out rfl h2)
      have hne : (k != 2) = true := by simpa using h2
      clear HN1 HN2 HN3 HIN HF HGL
      obtain ⟨rfl, rfl, rfl, rfl⟩ := HNO.out
      go_wp2_with fail
      obtain ⟨g0, g1, g2, g3⟩ := res4 (a := .int .i64 0) (b := .int .i64 0) (c := .slice none 0 0) (d := .slice none 0 0) (K0.res HK3.out)
      refine bodyPost_ret (v := .tuple #[.agg #[.int .i64 0, .int .i64 0, .slice none 0 0, .slice none 0 0], .int .i64 2]) (by simp [results, Tryd.results10, go_sem, g0, g1, g2, g3]) rfl ⟨.slice none 0 0, .slice none 0 0, rfl, ImplTidied.built_none _ _, ?_⟩
      exact set4_below (K0.base HK3.out) (Nat.le_succ _)
end Go.Proofs.YtgaipjofhkijbaaDoor.TapeFn
/- What the model tells of a tidy relation: the relation, or nothing and the code of a limit.
   Conditions: stated at each theorem. -/
namespace Go.Proofs.YtgaipjofhkijbaaDoor.ToldI
set_option linter.unusedVariables false
set_option linter.unusedSimpArgs false
set_option maxRecDepth 100000
open Go.RowKit Mem Copy Rel Valid Heap Bld TidyMath TidyAuto TidyRight ToL SpecRight SpecTidied SpecTold SpecTidyRel ImplTidied

theorem tidy_most {l : L} (hl : l.Ok) (hn : l.acc.length ≤ 5000) : (tidyAcc l).length ≤ 1000000 := by
  have h1 : (tidyAcc l).length = (tid (auM l) 0).length := by unfold tidyAcc TidyAuto.tidAcc; rw [List.length_map]
  have h2 : (tid (auM l) 0).length ≤ TidyAuto.most (auM l) := TidyAuto.met_few (fits hl) _
  have h3 := TidyAuto.cn_le (auM l) (TidyAuto.stop (auM l) + 1)
  have h4 : (auM l).n = (F l).length + 1 := rfl
  have h5 := F_few hl
  unfold TidyAuto.most at h2
  omega
theorem toldI (l : L) (hm : (tidyAcc l).length ≤ 1000000) (a4 b4 : Option Addr) (n4 c4 m4 d4 : Nat) (w : World) (B : Nat) (hbu : Built w B (.slice a4 n4 c4) (.slice b4 m4 d4) (tidyAcc l) (tidyNext l)) :
    Calls Tryd.prog 26 #[.agg #[.int .i64 (l.k : Nat), .int .i64 0, .slice a4 n4 c4, .slice b4 m4 d4]] w fun e w' => ∃ va vn, e = .returned (.tuple #[.agg #[.int .i64 (fewK l 150), .int .i64 0, va, vn], .int .i64 (if fewB l 150 = true then 0 else 3)]) ∧ Built w' B va vn (fewA l 150) (fewN l 150) ∧ Below w.heap.size w w' := by
  obtain ⟨a5, n5, c5, e5, hn5⟩ := hbu.acc.shape'
  injection e5 with _ e5 _
  have hn4 : n4 = (tidyAcc l).length := by rw [e5, hn5.out, List.length_map]
  by_cases hf : (tidyAcc l).length ≤ 150
  · have hb : fewB l 150 = true := decide_eq_true hf
    unfold fewK fewA fewN
    rw [if_pos hb, if_pos hb, if_pos hb, if_pos hb]
    exact (told_few _ _ _ _ _ _ _ w (by omega)).mono fun e w' ⟨he, hb⟩ => ⟨_, _, he, hbu.below hb, hb⟩
  · have hb : fewB l 150 = false := decide_eq_false hf
    unfold fewK fewA fewN
    rw [hb]
    exact (told_many _ _ _ _ _ _ _ w (by omega) (by omega)).mono fun e w' ⟨he, hb⟩ => ⟨_, _, he, ImplTidied.built_none _ _, hb⟩
theorem box_ptr {w W : World} {B b : Nat} {va vn : Value} {r : R} (h : RelAt w B (.agg #[.int .i64 r.tapes, .int .i64 r.start, va, vn]) r) (hB : B ≤ w.heap.size) (hb : Below w.heap.size w W) (hx : W.heap[b]? = some (.cells #[.int .i64 r.tapes, .int .i64 r.start, va, vn] 27 (0, 0))) : RelPtr W W.heap.size b r := by
  obtain ⟨va', vn', e, ha, hn⟩ := h
  simp at e
  obtain ⟨rfl, rfl⟩ := e
  have y0 := cells_get hx 0
  have y1 := cells_get hx 1
  have y2 := cells_get hx 2
  have y3 := cells_get hx 3
  simp at y0 y1 y2 y3
  exact ⟨_, _, y0, y1, y2, y3, (ha.below hb hB).mono (Nat.le_trans hB hb.size), (hn.below hb hB).mono (Nat.le_trans hB hb.size)⟩
end Go.Proofs.YtgaipjofhkijbaaDoor.ToldI
