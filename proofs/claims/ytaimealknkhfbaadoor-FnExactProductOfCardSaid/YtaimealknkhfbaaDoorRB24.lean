
/- What the program's withTape and tapeAdded hand back.
   Conditions: stated at each theorem. -/
import Derived.Test.YtaimealknkhfbaaDoorRB23
namespace Go.Proofs.YtaimealknkhfbaaDoor.AddI
set_option linter.unusedVariables false
set_option linter.unusedSimpArgs false
set_option maxRecDepth 100000
open Go.RowKit Go.Maps Mem Copy Rel Valid Heap Bld Columns ColMath SpecFiner Numbers TidyMath TidyAuto TidyRight SpecRight ImplRight ImplTidied ErrCode Automaton TapeMath Reread RereadI MoveI TapeI WithoutI

theorem withoutAny (k at_ c : Nat) (hat : at_ ≤ 2) (w : World) : Calls Tryd.prog 54 #[lettersV k c, .int .i64 at_] w fun e w' => e = .returned (.agg #[.int .u8 (letW k at_ c 0), .int .u8 (letW k at_ c 1), .int .u8 (letW k at_ c 2)]) ∧ Below w.heap.size w w' := by
  have : at_ = 0 ∨ at_ = 1 ∨ at_ = 2 := by omega
  rcases this with rfl | rfl | rfl
  · exact without0 _ _ _ w
  · exact without1 _ _ _ w
  · exact without2 _ _ _ w

set_option maxHeartbeats 8000000 in
theorem addRule (k at_ c : Nat) (h1 : 1 ≤ k) (h2 : k ≤ 2) (hat : at_ ≤ k) (hc : c < wide (k + 1)) (b1 : Nat) (W : World) (hb : W.cell? ⟨b1, 0, none⟩ = some (.int .i64 at_)) (l1 : b1 < W.heap.size) :
    Calls Tryd.prog 53 #[lettersV (k + 1) c, .pointer (some ⟨b1, 0, none⟩)] W fun e w' => e = .returned (lettersV k (leftN (k + 1) at_ c : Nat)) ∧ Below W.heap.size W w' := by
  have HW := Lib.hid (fun W => withoutAny (k + 1) at_ c (by omega) W)
  have HE := Lib.hid (show lettersV k (leftN (k + 1) at_ c : Nat) = .agg #[.int .u8 (letW (k + 1) at_ c 0), .int .u8 (letW (k + 1) at_ c 1), .int .u8 (letW (k + 1) at_ c 2)] from by
    obtain ⟨-, hp⟩ := left_fin h1 h2 hat hc
    rw [hp 0 (by omega), hp 1 (by omega), hp 2 (by omega)]; rfl)
  rw [HE.out]
  obtain ⟨y0, hy0⟩ : ∃ x, x = letW (k + 1) at_ c 0 := ⟨_, rfl⟩
  obtain ⟨y1, hy1⟩ : ∃ x, x = letW (k + 1) at_ c 1 := ⟨_, rfl⟩
  obtain ⟨y2, hy2⟩ : ∃ x, x = letW (k + 1) at_ c 2 := ⟨_, rfl⟩
  rw [← hy0, ← hy1, ← hy2] at HW ⊢
  obtain ⟨x0, hx0⟩ : ∃ x, x = letT (k + 1) c 0 := ⟨_, rfl⟩
  obtain ⟨x1, hx1⟩ : ∃ x, x = letT (k + 1) c 1 := ⟨_, rfl⟩
  obtain ⟨x2, hx2⟩ : ∃ x, x = letT (k + 1) c 2 := ⟨_, rfl⟩
  have ev : lettersV (k + 1) c = .agg #[.int .u8 x0, .int .u8 x1, .int .u8 x2] := by rw [hx0, hx1, hx2]; rfl
  rw [ev] at HW ⊢
  have q1 : b1 < W.heap.size + 1 := by omega
  obtain ⟨W2, hW2⟩ : ∃ W2, W2 = ((W.alloc (.cells #[.int .u8 x0, .int .u8 x1, .int .u8 x2] 75)).alloc (.cells #[Value.int .u8 0, .int .u8 0, .int .u8 0] 75)) := ⟨_, rfl⟩
  have hb1 : W2.heap[W.heap.size + 1]? = some (.cells #[Value.int .u8 0, .int .u8 0, .int .u8 0] 75 (0, 0)) := by
    have := heap_alloc_new (W.alloc (.cells #[.int .u8 x0, .int .u8 x1, .int .u8 x2] 75)) (.cells #[Value.int .u8 0, .int .u8 0, .int .u8 0] 75)
    rw [hW2]; simpa using this
  have HBW := Lib.hid (show Below W.heap.size W W2 by rw [hW2]; exact ((Below.refl _ W).alloc (Nat.le_refl _) _).alloc (by simp) _)
  have HB1 := Lib.hid hb1
  have HWE := Lib.hid hW2
  clear ev hx0 hx1 hx2 hy0 hy1 hy2 HE hb1 hW2
  go_enter Tryd.func53, Tryd.ntmps53
  go_wp2_with fail
  rw [← HWE.out]
  refine (HW.out W2).mono ?_
  rintro e w3 ⟨rfl, hbl⟩
  have hb3 : w3.heap[W.heap.size + 1]? = some (.cells #[Value.int .u8 0, .int .u8 0, .int .u8 0] 75 (0, 0)) := (hbl.block _ (lt_of_block HB1.out)).trans HB1.out
  have HB3 := Lib.hid hb3
  have HBB := Lib.hid (HBW.out.trans (hbl.mono HBW.out.size))
  have c0 := cells_get hb3 0
  have c1 := cells_get hb3 1
  have c2 := cells_get hb3 2
  have g0 := cells_free hb3 0
  have g1 := cells_free hb3 1
  have g2 := cells_free hb3 2
  have hl3 := lt_of_block hb3
  simp at c0 c1 c2
  clear hbl hb3 HW
  go_wp2_with fail
  obtain ⟨r0, r1, r2⟩ := res3 (W := w3) (N := W.heap.size + 1) (a := .int .u8 y0) (b := .int .u8 y1) (c := .int .u8 y2) HB3.out
  refine bodyPost_ret (v := .agg #[.int .u8 y0, .int .u8 y1, .int .u8 y2]) (by simp [results, Tryd.results53, go_sem, r0, r1, r2]) rfl ⟨rfl, ?_⟩
  exact ((HBB.out.setCell (p := ⟨W.heap.size + 1, 0, none⟩) (Nat.le_succ _) _).setCell (p := ⟨W.heap.size + 1, 1, none⟩) (Nat.le_succ _) _).setCell (p := ⟨W.heap.size + 1, 2, none⟩) (Nat.le_succ _) _

set_option maxHeartbeats 8000000 in
theorem withTapeI (l : L) (hl : l.Ok) (h2 : l.k ≤ 2) (at_ : Nat) (hat : at_ ≤ l.k) (v : Value) (w : World) (B : Nat) (h : RelAt w B v (relOf l)) (hB : B ≤ w.heap.size) (hn : l.acc.length ≤ 100000) :
    Calls Tryd.prog 40 #[v, .int .i64 at_] w fun e w' => ∃ va vn, e = .returned (.agg #[.int .i64 ((l.k + 1 : Nat) : Int), .int .i64 (l.start : Nat), va, vn]) ∧ (∃ x y z, v = .agg #[x, y, va, z]) ∧ Built w' w.heap.size (.slice none 0 0) vn [] (autN (l.k + 1) l.acc.length (reN l (leftN (l.k + 1) at_))) ∧ Below w.heap.size w w' := by
  have hk1 := hl.k0
  have hcf : ∀ (args : Array Value) (W : World), (callFunc 53 args).run Tryd.prog W = .ok (.enter 53 args) W := fun _ _ => rfl
  have HRR := Lib.hid (fun x W (hW : K3t 2 w x (.int .i64 at_) W) => rereadB l hl (l.k + 1) (by omega) (by omega) (leftN (l.k + 1) at_) (fun c hc => (left_fin hk1 h2 hat hc).1) v W B (h.below (K3t.base hW) hB) (by have := K3t.size hW; omega) hn 53 #[.pointer (some ⟨w.heap.size + 1, 0, none⟩)] hcf
    (fun W' hW' c hc => addRule l.k at_ c hk1 h2 hat hc (w.heap.size + 1) W' (by rw [cells_get (K3t.fn (K3t.step hW hW'))]; rfl) (by have := K3t.size (K3t.step hW hW'); omega)))
  obtain ⟨va, vn, rfl, ha, hx⟩ := h
  obtain ⟨aa, ba, oa, ca, rfl, -, -, -⟩ := ha
  obtain ⟨-, ⟨ab, bb, ob, cb, rfl, -, -, -⟩, -⟩ := hx
  obtain ⟨k, hk⟩ : ∃ k : Int, k = (relOf l).tapes := ⟨_, rfl⟩
  obtain ⟨st, hs⟩ : ∃ st : Int, st = (relOf l).start := ⟨_, rfl⟩
  obtain ⟨na, hna⟩ : ∃ na, na = (relOf l).accept.length := ⟨_, rfl⟩
  obtain ⟨nb, hnb⟩ : ∃ nb, nb = (relOf l).next.length := ⟨_, rfl⟩
  rw [← hk, ← hs, ← hna, ← hnb] at HRR
  rw [← hk, ← hs, ← hna, ← hnb]
  have HKK := Lib.hid (show ((l.k : Nat) : Int) = k from hk.symm)
  have HSS := Lib.hid (show ((l.start : Nat) : Int) = st from hs.symm)
  have hwr : IntKind.i64.wrap (k + 1) = k + 1 := by have := HKK.out; rw [IntKind.wrap_i64]; omega
  have HK1 := Lib.hid (show ((l.k + 1 : Nat) : Int) = k + 1 by rw [Int.natCast_add, HKK.out]; rfl)
  rw [HK1.out, HSS.out] at HRR ⊢
  obtain ⟨RW, hRW⟩ : ∃ x, x = autN (l.k + 1) l.acc.length (reN l (leftN (l.k + 1) at_)) := ⟨_, rfl⟩
  rw [← hRW] at HRR ⊢
  have HK0 := Lib.hid (show K3t 2 w #[.int .i64 k, .int .i64 st, .slice aa na ca, .slice ab nb cb] (.int .i64 at_) (((w.alloc (.cells #[.int .i64 k, .int .i64 st, .slice aa na ca, .slice ab nb cb] 27)).alloc (.cells #[.int .i64 at_] 2)).alloc (.cells #[Value.int .i64 0, .int .i64 0, .slice none 0 0, .slice none 0 0] 27)) from Below.refl _ _)
  have HR1 := Lib.hid (HRR.out _ _ HK0.out)
  have hmf : ∀ (fn : Fn) (first cap : Array Value) (w : World), (Instr.makeFunc fn first cap).run Tryd.prog w = .ok (.func fn first cap) w := fun _ _ _ _ => rfl
  have HS3 := Lib.hid (K3t.size3 2 w #[.int .i64 k, .int .i64 st, .slice aa na ca, .slice ab nb cb] (.int .i64 at_))
  clear hk hs hna hnb hRW HRR hB hn hl hcf hk1 h2 hat HKK HSS HK1
  go_enter Tryd.func40, Tryd.ntmps40
  go_wp2_with fail
  refine HR1.out.mono ?_
  rintro e w2 ⟨va2, vn2, rfl, ⟨_, _, _, e2⟩, hbu, hb2⟩
  rw [HS3.out] at hb2 hbu
  have hk2 : K3t 2 w #[.int .i64 k, .int .i64 st, .slice aa na ca, .slice ab nb cb] (.int .i64 at_) w2 := hb2
  injection e2 with e2
  replace e2 := congrArg Array.toList e2
  simp only [List.cons.injEq, and_true] at e2
  obtain ⟨-, -, rfl, -⟩ := e2
  obtain ⟨items7, -, hnx7, -⟩ := hbu.rows
  obtain ⟨b7, m7, d7, rfl, -⟩ := hnx7.shape'
  obtain ⟨Z, hZ⟩ : ∃ Z, Z = w.heap.size + 2 := ⟨_, rfl⟩
  have HBASE := Lib.hid (K3t.base hk2)
  have hres : w2.heap[Z]? = some (.cells #[Value.int .i64 0, .int .i64 0, .slice none 0 0, .slice none 0 0] 27 (0, 0)) := by rw [hZ]; exact K3t.res hk2
  have hlS : Z < w2.heap.size := by have := K3t.size hk2; omega
  have HZW := Lib.hid (show w.heap.size ≤ Z by omega)
  have HZE := Lib.hid (show w.heap.size + 1 + 1 = Z by omega)
  have HZ3 := Lib.hid (show Z < w.heap.size + 3 by omega)
  have HBU := Lib.hid hbu
  have r0 := cells_get hres 0
  have r1 := cells_get hres 1
  have r2 := cells_get hres 2
  have r3 := cells_get hres 3
  have f0 := cells_free hres 0
  have f1 := cells_free hres 1
  have f2 := cells_free hres 2
  have f3 := cells_free hres 3
  have p0 := cells_set hres 0 (.int .i64 (k + 1))
  have p1 := cells_set p0 1 (.int .i64 st)
  have p2 := cells_set p1 2 (.slice aa na ca)
  have p3 := cells_set p2 3 (.slice b7 m7 d7)
  simp at r0 r1 r2 r3 p3
  have g0 := cells_get p3 0
  have g1 := cells_get p3 1
  have g2 := cells_get p3 2
  have g3 := cells_get p3 3
  simp at g0 g1 g2 g3
  have HG := Lib.hid (And.intro g0 (And.intro g1 (And.intro g2 g3)))
  clear p0 p1 p2 p3 g0 g1 g2 g3 hres hnx7 hbu hb2 hk2 hZ HR1 HK0 HS3
  rw [HZE.out]
  go_wp2_with fail
  obtain ⟨g0, g1, g2, g3⟩ := HG.out
  refine bodyPost_ret (v := .agg #[.int .i64 (k + 1), .int .i64 st, .slice aa na ca, .slice b7 m7 d7]) (by simp [results, Tryd.results40, go_sem, g0, g1, g2, g3]) rfl ⟨.slice aa na ca, .slice b7 m7 d7, rfl, ⟨_, _, _, rfl⟩, ?_, ?_⟩
  · exact (((((HBU.out.setLow (a := ⟨Z, 0, none⟩) HZ3.out _).setLow (a := ⟨Z, 1, none⟩) HZ3.out _).setLow (a := ⟨Z, 2, none⟩) HZ3.out _).setLow (a := ⟨Z, 3, none⟩) HZ3.out _).mono (by omega))
  · exact ((((HBASE.out.setCell (p := ⟨Z, 0, none⟩) HZW.out _).setCell (p := ⟨Z, 1, none⟩) HZW.out _).setCell (p := ⟨Z, 2, none⟩) HZW.out _).setCell (p := ⟨Z, 3, none⟩) HZW.out _)
end Go.Proofs.YtaimealknkhfbaaDoor.AddI
/- What the program's tapeAdded and inSteps, of one step, hand back.
   Conditions: stated at each theorem. -/
namespace Go.Proofs.YtaimealknkhfbaaDoor.StepI
set_option linter.unusedVariables false
set_option linter.unusedSimpArgs false
set_option maxRecDepth 100000
open Go.RowKit Go.Maps Mem Copy Rel Valid Heap Bld Columns ColMath SpecFiner Numbers TidyMath TidyAuto TidyRight SpecRight ImplRight ImplTidied ErrCode Automaton TapeMath Reread RereadI MoveI TapeI WithoutI AddI

abbrev set4 (W : World) (Z : Nat) (a b c d : Value) : World := (((W.setCell ⟨Z, 0, none⟩ a).setCell ⟨Z, 1, none⟩ b).setCell ⟨Z, 2, none⟩ c).setCell ⟨Z, 3, none⟩ d
theorem res4 {W : World} {Z : Nat} {a b c d x y z u : Value} {t : TypeId} (h : W.heap[Z]? = some (.cells #[x, y, z, u] t (0, 0))) :
    (set4 W Z a b c d).cell? ⟨Z, 0, none⟩ = some a ∧ (set4 W Z a b c d).cell? ⟨Z, 1, none⟩ = some b ∧ (set4 W Z a b c d).cell? ⟨Z, 2, none⟩ = some c ∧ (set4 W Z a b c d).cell? ⟨Z, 3, none⟩ = some d := by
  have p3 := cells_set (cells_set (cells_set (cells_set h 0 a) 1 b) 2 c) 3 d
  simp at p3
  exact ⟨by rw [cells_get p3]; rfl, by rw [cells_get p3]; rfl, by rw [cells_get p3]; rfl, by rw [cells_get p3]; rfl⟩
theorem set4_built {W : World} {B Z : Nat} {a b c d va vn : Value} {A : List Bool} {N : List (List Int)} (h : Built W B va vn A N) (hZ : Z < B) : Built (set4 W Z a b c d) B va vn A N :=
  (((h.setLow (a := ⟨Z, 0, none⟩) hZ _).setLow (a := ⟨Z, 1, none⟩) hZ _).setLow (a := ⟨Z, 2, none⟩) hZ _).setLow (a := ⟨Z, 3, none⟩) hZ _
theorem set4_below {w W : World} {B Z : Nat} {a b c d : Value} (h : Below B w W) (hZ : B ≤ Z) : Below B w (set4 W Z a b c d) :=
  (((h.setCell (p := ⟨Z, 0, none⟩) hZ _).setCell (p := ⟨Z, 1, none⟩) hZ _).setCell (p := ⟨Z, 2, none⟩) hZ _).setCell (p := ⟨Z, 3, none⟩) hZ _
theorem leftL_ok {l : L} (hl : l.Ok) (h2 : l.k ≤ 2) {at_ : Nat} (hat : at_ ≤ l.k) : (reL l (l.k + 1) (leftN (l.k + 1) at_)).Ok :=
  reL_ok hl (by have := hl.k0; omega) (by omega) fun c hc => (left_fin hl.k0 h2 hat hc).1

/-- What a step hands back. -/
def StepR (l : L) (w : World) (e : Ending) (w' : World) : Prop := ∃ va vn, e = .returned (.tuple #[.agg #[.int .i64 (fewK l 150), .int .i64 0, va, vn], errV (fewB l 150) 150]) ∧ Built w' w.heap.size va vn (fewA l 150) (fewN l 150) ∧ Below w.heap.size w w'

end Go.Proofs.YtaimealknkhfbaaDoor.StepI
