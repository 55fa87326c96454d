
/- What the program's withTape and tapeAdded hand back.
   Conditions: stated at each theorem. -/
import Derived.Test.YtcpcbmappcndcaaGreatDoorRB23
namespace Go.Proofs.YtcpcbmappcndcaaGreatDoor.AddI
set_option linter.unusedVariables false
set_option linter.unusedSimpArgs false
set_option maxRecDepth 100000
open Go.RowKit Go.Maps Mem Copy Rel Valid Heap Bld Columns ColMath SpecFiner Numbers TidyMath TidyAuto TidyRight SpecRight ImplRight ImplTidied ErrCode Automaton TapeMath Reread RereadI MoveI TapeI WithoutI

theorem withoutAny (k at_ c : Nat) (hat : at_ ≤ 2) (w : World) : Calls Tryz.prog 109 #[lettersV k c, .int .i64 at_] w fun e w' => e = .returned (.agg #[.int .u8 (letW k at_ c 0), .int .u8 (letW k at_ c 1), .int .u8 (letW k at_ c 2)]) ∧ Below w.heap.size w w' := by
  have : at_ = 0 ∨ at_ = 1 ∨ at_ = 2 := by omega
  rcases this with rfl | rfl | rfl
  · exact without0 _ _ _ w
  · exact without1 _ _ _ w
  · exact without2 _ _ _ w

set_option maxHeartbeats 8000000 in
theorem addRule (k at_ c : Nat) (h1 : 1 ≤ k) (h2 : k ≤ 2) (hat : at_ ≤ k) (hc : c < wide (k + 1)) (b1 : Nat) (W : World) (hb : W.cell? ⟨b1, 0, none⟩ = some (.int .i64 at_)) (l1 : b1 < W.heap.size) :
    Calls Tryz.prog 108 #[lettersV (k + 1) c, .pointer (some ⟨b1, 0, none⟩)] W fun e w' => e = .returned (lettersV k (leftN (k + 1) at_ c : Nat)) ∧ Below W.heap.size W w' := by
  have HW := Lib.hid (fun W => withoutAny (k + 1) at_ c (by omega) W)
  have HE := Lib.hid (show lettersV k (leftN (k + 1) at_ c : Nat) = .agg #[.int .u8 (letW (k + 1) at_ c 0), .int .u8 (letW (k + 1) at_ c 1), .int .u8 (letW (k + 1) at_ c 2)] from by
    obtain ⟨-, hp⟩ := left_fin h1 h2 hat hc
    rw [hp 0 (by omega), hp 1 (by omega), hp 2 (by omega)]; rfl)
  rw [HE.out]
  obtain ⟨y0, hy0⟩ : ∃ x, x = letW (k + 1) at_ c 0 := ⟨_, rfl⟩
  obtain ⟨y1, hy1⟩ : ∃ x, x = letW (k + 1) at_ c 1 := ⟨_, rfl⟩
  obtain ⟨y2, hy2⟩ : ∃ x, x = letW (k + 1) at_ c 2 := ⟨_, rfl⟩
  rw [← hy0, ← hy1, ← hy2] at HW ⊢
  obtain ⟨x0, hx0⟩ : ∃ x, x = letT (k + 1) c 0 := ⟨_, rfl⟩
  obtain ⟨x1, hx1⟩ : ∃ x, x = letT (k + 1) c 1 := ⟨_, rfl⟩
  obtain ⟨x2, hx2⟩ : ∃ x, x = letT (k + 1) c 2 := ⟨_, rfl⟩
  have ev : lettersV (k + 1) c = .agg #[.int .u8 x0, .int .u8 x1, .int .u8 x2] := by rw [hx0, hx1, hx2]; rfl
  rw [ev] at HW ⊢
  have q1 : b1 < W.heap.size + 1 := by omega
  obtain ⟨W2, hW2⟩ : ∃ W2, W2 = ((W.alloc (.cells #[.int .u8 x0, .int .u8 x1, .int .u8 x2] 98)).alloc (.cells #[Value.int .u8 0, .int .u8 0, .int .u8 0] 98)) := ⟨_, rfl⟩
  have hb1 : W2.heap[W.heap.size + 1]? = some (.cells #[Value.int .u8 0, .int .u8 0, .int .u8 0] 98 (0, 0)) := by
    have := heap_alloc_new (W.alloc (.cells #[.int .u8 x0, .int .u8 x1, .int .u8 x2] 98)) (.cells #[Value.int .u8 0, .int .u8 0, .int .u8 0] 98)
    rw [hW2]; simpa using this
  have HBW := Lib.hid (show Below W.heap.size W W2 by rw [hW2]; exact ((Below.refl _ W).alloc (Nat.le_refl _) _).alloc (by simp) _)
  have HB1 := Lib.hid hb1
  have HWE := Lib.hid hW2
  clear ev hx0 hx1 hx2 hy0 hy1 hy2 HE hb1 hW2
  go_enter Tryz.func108, Tryz.ntmps108
  go_wp2_with fail
  rw [← HWE.out]
  refine (HW.out W2).mono ?_
  rintro e w3 ⟨rfl, hbl⟩
  have hb3 : w3.heap[W.heap.size + 1]? = some (.cells #[Value.int .u8 0, .int .u8 0, .int .u8 0] 98 (0, 0)) := (hbl.block _ (lt_of_block HB1.out)).trans HB1.out
  have HB3 := Lib.hid hb3
  have HBB := Lib.hid (HBW.out.trans (hbl.mono HBW.out.size))
  have c0 := cells_get hb3 0
  have c1 := cells_get hb3 1
  have c2 := cells_get hb3 2
  have g0 := cells_free hb3 0
  have g1 := cells_free hb3 1
  have g2 := cells_free hb3 2
  have hl3 := lt_of_block hb3
  simp at c0 c1 c2
  clear hbl hb3 HW
  go_wp2_with fail
  obtain ⟨r0, r1, r2⟩ := res3 (W := w3) (N := W.heap.size + 1) (a := .int .u8 y0) (b := .int .u8 y1) (c := .int .u8 y2) HB3.out
  refine bodyPost_ret (v := .agg #[.int .u8 y0, .int .u8 y1, .int .u8 y2]) (by simp [results, Tryz.results108, go_sem, r0, r1, r2]) rfl ⟨rfl, ?_⟩
  exact ((HBB.out.setCell (p := ⟨W.heap.size + 1, 0, none⟩) (Nat.le_succ _) _).setCell (p := ⟨W.heap.size + 1, 1, none⟩) (Nat.le_succ _) _).setCell (p := ⟨W.heap.size + 1, 2, none⟩) (Nat.le_succ _) _

set_option maxHeartbeats 8000000 in
theorem withTapeI (l : L) (hl : l.Ok) (h2 : l.k ≤ 2) (at_ : Nat) (hat : at_ ≤ l.k) (v : Value) (w : World) (B : Nat) (h : RelAt w B v (relOf l)) (hB : B ≤ w.heap.size) (hn : l.acc.length ≤ 100000) :
    Calls Tryz.prog 84 #[v, .int .i64 at_] w fun e w' => ∃ va vn, e = .returned (.agg #[.int .i64 ((l.k + 1 : Nat) : Int), .int .i64 (l.start : Nat), va, vn]) ∧ (∃ x y z, v = .agg #[x, y, va, z]) ∧ Built w' w.heap.size (.slice none 0 0) vn [] (autN (l.k + 1) l.acc.length (reN l (leftN (l.k + 1) at_))) ∧ Below w.heap.size w w' := by
  have hk1 := hl.k0
  have hcf : ∀ (args : Array Value) (W : World), (callFunc 108 args).run Tryz.prog W = .ok (.enter 108 args) W := fun _ _ => rfl
  have HRR := Lib.hid (fun x W (hW : K3t 2 w x (.int .i64 at_) W) => rereadB l hl (l.k + 1) (by omega) (by omega) (leftN (l.k + 1) at_) (fun c hc => (left_fin hk1 h2 hat hc).1) v W B (h.below (K3t.base hW) hB) (by have := K3t.size hW; omega) hn 108 #[.pointer (some ⟨w.heap.size + 1, 0, none⟩)] hcf
    (fun W' hW' c hc => addRule l.k at_ c hk1 h2 hat hc (w.heap.size + 1) W' (by rw [cells_get (K3t.fn (K3t.step hW hW'))]; rfl) (by have := K3t.size (K3t.step hW hW'); omega)))
  obtain ⟨va, vn, rfl, ha, hx⟩ := h
  obtain ⟨aa, ba, oa, ca, rfl, -, -, -⟩ := ha
  obtain ⟨-, ⟨ab, bb, ob, cb, rfl, -, -, -⟩, -⟩ := hx
  obtain ⟨k, hk⟩ : ∃ k : Int, k = (relOf l).tapes := ⟨_, rfl⟩
  obtain ⟨st, hs⟩ : ∃ st : Int, st = (relOf l).start := ⟨_, rfl⟩
  obtain ⟨na, hna⟩ : ∃ na, na = (relOf l).accept.length := ⟨_, rfl⟩
  obtain ⟨nb, hnb⟩ : ∃ nb, nb = (relOf l).next.length := ⟨_, rfl⟩
  rw [← hk, ← hs, ← hna, ← hnb] at HRR
  rw [← hk, ← hs, ← hna, ← hnb]
  have HKK := Lib.hid (show ((l.k : Nat) : Int) = k from hk.symm)
  have HSS := Lib.hid (show ((l.start : Nat) : Int) = st from hs.symm)
  have hwr : IntKind.i64.wrap (k + 1) = k + 1 := by have := HKK.out; rw [IntKind.wrap_i64]; omega
  have HK1 := Lib.hid (show ((l.k + 1 : Nat) : Int) = k + 1 by rw [Int.natCast_add, HKK.out]; rfl)
  rw [HK1.out, HSS.out] at HRR ⊢
  obtain ⟨RW, hRW⟩ : ∃ x, x = autN (l.k + 1) l.acc.length (reN l (leftN (l.k + 1) at_)) := ⟨_, rfl⟩
  rw [← hRW] at HRR ⊢
  have HK0 := Lib.hid (show K3t 2 w #[.int .i64 k, .int .i64 st, .slice aa na ca, .slice ab nb cb] (.int .i64 at_) (((w.alloc (.cells #[.int .i64 k, .int .i64 st, .slice aa na ca, .slice ab nb cb] 27)).alloc (.cells #[.int .i64 at_] 2)).alloc (.cells #[Value.int .i64 0, .int .i64 0, .slice none 0 0, .slice none 0 0] 27)) from Below.refl _ _)
  have HR1 := Lib.hid (HRR.out _ _ HK0.out)
  have hmf : ∀ (fn : Fn) (first cap : Array Value) (w : World), (Instr.makeFunc fn first cap).run Tryz.prog w = .ok (.func fn first cap) w := fun _ _ _ _ => rfl
  have HS3 := Lib.hid (K3t.size3 2 w #[.int .i64 k, .int .i64 st, .slice aa na ca, .slice ab nb cb] (.int .i64 at_))
  clear hk hs hna hnb hRW HRR hB hn hl hcf hk1 h2 hat HKK HSS HK1
  go_enter Tryz.func84, Tryz.ntmps84
  go_wp2_with fail
  refine HR1.out.mono ?_
  rintro e w2 ⟨va2, vn2, rfl, ⟨_, _, _, e2⟩, hbu, hb2⟩
  rw [HS3.out] at hb2 hbu
  have hk2 : K3t 2 w #[.int .i64 k, .int .i64 st, .slice aa na ca, .slice ab nb cb] (.int .i64 at_) w2 := hb2
  injection e2 with e2
  replace e2 := congrArg Array.toList e2
  simp only [List.cons.injEq, and_true] at e2
  obtain ⟨-, -, rfl, -⟩ := e2
  obtain ⟨items7, -, hnx7, -⟩ := hbu.rows
  obtain ⟨b7, m7, d7, rfl, -⟩ := hnx7.shape'
  obtain ⟨Z, hZ⟩ : ∃ Z, Z = w.heap.size + 2 := ⟨_, rfl⟩
  have HBASE := Lib.hid (K3t.base hk2)
  have hres : w2.heap[Z]? = some (.cells #[Value.int .i64 0, .int .i64 0, .slice none 0 0, .slice none 0 0] 27 (0, 0)) := by rw [hZ]; exact K3t.res hk2
  have hlS : Z < w2.heap.size := by have := K3t.size hk2; omega
  have HZW := Lib.hid (show w.heap.size ≤ Z by omega)
  have HZE := Lib.hid (show w.heap.size + 1 + 1 = Z by omega)
  have HZ3 := Lib.hid (show Z < w.heap.size + 3 by omega)
  have HBU := Lib.hid hbu
  have r0 := cells_get hres 0
  have r1 := cells_get hres 1
  have r2 := cells_get hres 2
  have r3 := cells_get hres 3
  have f0 := cells_free hres 0
  have f1 := cells_free hres 1
  have f2 := cells_free hres 2
  have f3 := cells_free hres 3
  have p0 := cells_set hres 0 (.int .i64 (k + 1))
  have p1 := cells_set p0 1 (.int .i64 st)
  have p2 := cells_set p1 2 (.slice aa na ca)
  have p3 := cells_set p2 3 (.slice b7 m7 d7)
  simp at r0 r1 r2 r3 p3
  have g0 := cells_get p3 0
  have g1 := cells_get p3 1
  have g2 := cells_get p3 2
  have g3 := cells_get p3 3
  simp at g0 g1 g2 g3
  have HG := Lib.hid (And.intro g0 (And.intro g1 (And.intro g2 g3)))
  clear p0 p1 p2 p3 g0 g1 g2 g3 hres hnx7 hbu hb2 hk2 hZ HR1 HK0 HS3
  rw [HZE.out]
  go_wp2_with fail
  obtain ⟨g0, g1, g2, g3⟩ := HG.out
  refine bodyPost_ret (v := .agg #[.int .i64 (k + 1), .int .i64 st, .slice aa na ca, .slice b7 m7 d7]) (by simp [results, Tryz.results84, go_sem, g0, g1, g2, g3]) rfl ⟨.slice aa na ca, .slice b7 m7 d7, rfl, ⟨_, _, _, rfl⟩, ?_, ?_⟩
  · exact (((((HBU.out.setLow (a := ⟨Z, 0, none⟩) HZ3.out _).setLow (a := ⟨Z, 1, none⟩) HZ3.out _).setLow (a := ⟨Z, 2, none⟩) HZ3.out _).setLow (a := ⟨Z, 3, none⟩) HZ3.out _).mono (by omega))
  · exact ((((HBASE.out.setCell (p := ⟨Z, 0, none⟩) HZW.out _).setCell (p := ⟨Z, 1, none⟩) HZW.out _).setCell (p := ⟨Z, 2, none⟩) HZW.out _).setCell (p := ⟨Z, 3, none⟩) HZW.out _)
end Go.Proofs.YtcpcbmappcndcaaGreatDoor.AddI
/- What the program's tapeAdded and inSteps, of one step, hand back.
   Conditions: stated at each theorem. -/
namespace Go.Proofs.YtcpcbmappcndcaaGreatDoor.StepI
set_option linter.unusedVariables false
set_option linter.unusedSimpArgs false
set_option maxRecDepth 100000
open Go.RowKit Go.Maps Mem Copy Rel Valid Heap Bld Columns ColMath SpecFiner Numbers TidyMath TidyAuto TidyRight SpecRight ImplRight ImplTidied ErrCode Automaton TapeMath Reread RereadI MoveI TapeI WithoutI AddI

abbrev set4 (W : World) (Z : Nat) (a b c d : Value) : World := (((W.setCell ⟨Z, 0, none⟩ a).setCell ⟨Z, 1, none⟩ b).setCell ⟨Z, 2, none⟩ c).setCell ⟨Z, 3, none⟩ d
theorem res4 {W : World} {Z : Nat} {a b c d x y z u : Value} {t : TypeId} (h : W.heap[Z]? = some (.cells #[x, y, z, u] t (0, 0))) :
    (set4 W Z a b c d).cell? ⟨Z, 0, none⟩ = some a ∧ (set4 W Z a b c d).cell? ⟨Z, 1, none⟩ = some b ∧ (set4 W Z a b c d).cell? ⟨Z, 2, none⟩ = some c ∧ (set4 W Z a b c d).cell? ⟨Z, 3, none⟩ = some d := by
  have p3 := cells_set (cells_set (cells_set (cells_set h 0 a) 1 b) 2 c) 3 d
  simp at p3
  exact ⟨by rw [cells_get p3]; rfl, by rw [cells_get p3]; rfl, by rw [cells_get p3]; rfl, by rw [cells_get p3]; rfl⟩
theorem set4_built {W : World} {B Z : Nat} {a b c d va vn : Value} {A : List Bool} {N : List (List Int)} (h : Built W B va vn A N) (hZ : Z < B) : Built (set4 W Z a b c d) B va vn A N :=
  (((h.setLow (a := ⟨Z, 0, none⟩) hZ _).setLow (a := ⟨Z, 1, none⟩) hZ _).setLow (a := ⟨Z, 2, none⟩) hZ _).setLow (a := ⟨Z, 3, none⟩) hZ _
theorem set4_below {w W : World} {B Z : Nat} {a b c d : Value} (h : Below B w W) (hZ : B ≤ Z) : Below B w (set4 W Z a b c d) :=
  (((h.setCell (p := ⟨Z, 0, none⟩) hZ _).setCell (p := ⟨Z, 1, none⟩) hZ _).setCell (p := ⟨Z, 2, none⟩) hZ _).setCell (p := ⟨Z, 3, none⟩) hZ _
theorem leftL_ok {l : L} (hl : l.Ok) (h2 : l.k ≤ 2) {at_ : Nat} (hat : at_ ≤ l.k) : (reL l (l.k + 1) (leftN (l.k + 1) at_)).Ok :=
  reL_ok hl (by have := hl.k0; omega) (by omega) fun c hc => (left_fin hl.k0 h2 hat hc).1

/-- What a step hands back. -/
def StepR (l : L) (w : World) (e : Ending) (w' : World) : Prop := ∃ va vn, e = .returned (.tuple #[.agg #[.int .i64 (fewK l 150), .int .i64 0, va, vn], errV (fewB l 150) 150]) ∧ Built w' w.heap.size va vn (fewA l 150) (fewN l 150) ∧ Below w.heap.size w w'

set_option maxHeartbeats 8000000 in
theorem tapeStepI (l : L) (hl : l.Ok) (h2 : l.k ≤ 2) (at_ : Nat) (hat : at_ ≤ l.k) (v : Value) (w : World) (B : Nat) (h : RelAt w B v (relOf l)) (hB : B ≤ w.heap.size) (hn : l.acc.length ≤ 100000) (b1 : Nat) (hb : w.cell? ⟨b1, 0, none⟩ = some (.int .i64 at_)) (l1 : b1 < w.heap.size) :
    Calls Tryz.prog 83 #[v, .pointer (some ⟨b1, 0, none⟩)] w fun e w' => StepR (reL l (l.k + 1) (leftN (l.k + 1) at_)) w e w' := by
  unfold StepR
  have HRR := Lib.hid (fun x W (hW : K0 w x W) => withTapeI l hl h2 at_ hat v W B (h.below (K0.base hW) hB) (by have := K0.size hW; omega) hn)
  have HRO := Lib.hid (fun x W (hW : K0 w x W) W' va x' y z vn C (e : v = .agg #[x', y, va, z]) (hb : Below W.heap.size W W') (hbu : Built W' C (.slice none 0 0) vn [] (autN (l.k + 1) l.acc.length (reN l (leftN (l.k + 1) at_)))) =>
    rel_of (acc_of h e) hB ((K0.base hW).trans (hb.mono (by have := K0.size hW; omega))) hbu)
  have HTS := Lib.hid (fun W u (hu : RelAt W W.heap.size u (relOf (reL l (l.k + 1) (leftN (l.k + 1) at_)))) => tidyStepI (reL l (l.k + 1) (leftN (l.k + 1) at_)) (leftL_ok hl h2 hat) u W W.heap.size hu (Nat.le_refl _) hn)
  obtain ⟨L1, hL1⟩ : ∃ x, x = reL l (l.k + 1) (leftN (l.k + 1) at_) := ⟨_, rfl⟩
  rw [← hL1] at HTS HRO ⊢
  obtain ⟨K, hK⟩ : ∃ K, K = fewK L1 150 := ⟨_, rfl⟩
  obtain ⟨A, hA⟩ : ∃ A, A = fewA L1 150 := ⟨_, rfl⟩
  obtain ⟨N, hN⟩ : ∃ N, N = fewN L1 150 := ⟨_, rfl⟩
  obtain ⟨Q, hQ⟩ : ∃ Q, Q = fewB L1 150 := ⟨_, rfl⟩
  rw [← hK, ← hA, ← hN, ← hQ] at HTS
  rw [← hK, ← hA, ← hN, ← hQ]
  clear hK hA hN hQ hL1
  obtain ⟨va, vn, rfl, ha, hx⟩ := h
  obtain ⟨aa, ba, oa, ca, rfl, -, -, -⟩ := ha
  obtain ⟨-, ⟨ab, bb, ob, cb, rfl, -, -, -⟩, -⟩ := hx
  obtain ⟨k, hk⟩ : ∃ k : Int, k = (relOf l).tapes := ⟨_, rfl⟩
  obtain ⟨st, hs⟩ : ∃ st : Int, st = (relOf l).start := ⟨_, rfl⟩
  obtain ⟨na, hna⟩ : ∃ na, na = (relOf l).accept.length := ⟨_, rfl⟩
  obtain ⟨nb, hnb⟩ : ∃ nb, nb = (relOf l).next.length := ⟨_, rfl⟩
  have HSS := Lib.hid (show ((l.start : Nat) : Int) = st from hs.symm)
  rw [HSS.out] at HRR HRO
  obtain ⟨k1, hk1⟩ : ∃ x, x = ((l.k + 1 : Nat) : Int) := ⟨_, rfl⟩
  obtain ⟨RW, hRW⟩ : ∃ x, x = autN (l.k + 1) l.acc.length (reN l (leftN (l.k + 1) at_)) := ⟨_, rfl⟩
  rw [← hRW] at HRR HRO
  rw [← hk1] at HRR HRO
  rw [← hk, ← hs, ← hna, ← hnb] at HRR HRO
  rw [← hk, ← hs, ← hna, ← hnb]
  have HK0 := Lib.hid (show K0 w #[.int .i64 k, .int .i64 st, .slice aa na ca, .slice ab nb cb] ((w.alloc (.cells #[.int .i64 k, .int .i64 st, .slice aa na ca, .slice ab nb cb] 27)).alloc (.cells #[Value.int .i64 0, .int .i64 0, .slice none 0 0, .slice none 0 0] 27)) from Below.refl _ _)
  have HR1 := Lib.hid (HRR.out _ _ HK0.out)
  have HS3 := Lib.hid (show ((w.alloc (.cells #[.int .i64 k, .int .i64 st, .slice aa na ca, .slice ab nb cb] 27)).alloc (.cells #[Value.int .i64 0, .int .i64 0, .slice none 0 0, .slice none 0 0] 27)).heap.size = w.heap.size + 2 by rw [size_alloc', size_alloc'])
  have q1 : b1 < w.heap.size + 1 := by omega
  clear hk hs hna hnb hRW hk1 HRR hB hn hl h2 hat HSS
  go_enter Tryz.func83, Tryz.ntmps83
  go_wp2_with fail
  refine HR1.out.mono ?_
  rintro e w2 ⟨va2, vn2, rfl, ⟨x2, y2, z2, e2⟩, hbu, hb2⟩
  have HS2 := Lib.hid (HTS.out w2 _ (HRO.out _ _ HK0.out w2 va2 x2 y2 z2 vn2 _ e2 hb2 hbu))
  rw [HS3.out] at hb2
  have hk2 : K0 w #[.int .i64 k, .int .i64 st, .slice aa na ca, .slice ab nb cb] w2 := hb2
  injection e2 with e2
  replace e2 := congrArg Array.toList e2
  simp only [List.cons.injEq, and_true] at e2
  obtain ⟨-, -, rfl, -⟩ := e2
  obtain ⟨items7, -, hnx7, -⟩ := hbu.rows
  obtain ⟨b7, m7, d7, rfl, -⟩ := hnx7.shape'
  obtain ⟨Z, hZ⟩ : ∃ Z, Z = w.heap.size + 1 := ⟨_, rfl⟩
  have HBASE := Lib.hid (K0.base hk2)
  have HZR := Lib.hid (show w2.heap[Z]? = some (.cells #[Value.int .i64 0, .int .i64 0, .slice none 0 0, .slice none 0 0] 27 (0, 0)) by rw [hZ]; exact K0.res hk2)
  have HLZ := Lib.hid (show Z < w2.heap.size by have := K0.size hk2; omega)
  have HZW := Lib.hid (show w.heap.size ≤ Z by omega)
  have HZE := Lib.hid (show w.heap.size + 1 = Z by omega)
  clear hb2 hk2 hZ HTS HR1 HK0 HS3 HRO hnx7 hbu
  go_wp2_with fail
  refine HS2.out.mono ?_
  rintro e w3 ⟨va, vn, rfl, hbu, hb3⟩
  have HR3 := Lib.hid (show Res0 w Z w3 from ⟨HBASE.out.trans (hb3.mono HBASE.out.size), by rw [hb3.block Z HLZ.out]; exact HZR.out, HZW.out⟩)
  have HB3 := Lib.hid (show Built w3 (Z + 1) va vn A N from hbu.mono HLZ.out)
  clear hb3 hbu
  have hres := HR3.out.res
  obtain ⟨a8, n8, c8, rfl, -⟩ := HB3.out.acc.shape'
  obtain ⟨items8, -, hnx8, -⟩ := HB3.out.rows
  obtain ⟨b8, m8, d8, rfl, -⟩ := hnx8.shape'
  have r0 := cells_get hres 0
  have r1 := cells_get hres 1
  have r2 := cells_get hres 2
  have r3 := cells_get hres 3
  have f0 := cells_free hres 0
  have f1 := cells_free hres 1
  have f2 := cells_free hres 2
  have f3 := cells_free hres 3
  have hlS := HR3.out.lt
  have p0 := cells_set hres 0 (.int .i64 K)
  have p1 := cells_set p0 1 (.int .i64 0)
  have p2 := cells_set p1 2 (.slice a8 n8 c8)
  have p3 := cells_set p2 3 (.slice b8 m8 d8)
  simp at r0 r1 r2 r3 p3
  have g0 := cells_get p3 0
  have g1 := cells_get p3 1
  have g2 := cells_get p3 2
  have g3 := cells_get p3 3
  simp at g0 g1 g2 g3
  have HG := Lib.hid (And.intro g0 (And.intro g1 (And.intro g2 g3)))
  clear p0 p1 p2 p3 g0 g1 g2 g3 hres hnx8
  rw [HZE.out]
  go_wp2_with fail
  obtain ⟨g0, g1, g2, g3⟩ := HG.out
  refine bodyPost_ret (v := .tuple #[.agg #[.int .i64 K, .int .i64 0, .slice a8 n8 c8, .slice b8 m8 d8], errV Q 150]) (by simp [results, Tryz.results83, go_sem, g0, g1, g2, g3]) rfl ⟨.slice a8 n8 c8, .slice b8 m8 d8, rfl, ?_, ?_⟩
  · have hZ1 : Z < Z + 1 := Nat.lt_succ_self _
    exact (((((HB3.out.setLow (a := ⟨Z, 0, none⟩) hZ1 _).setLow (a := ⟨Z, 1, none⟩) hZ1 _).setLow (a := ⟨Z, 2, none⟩) hZ1 _).setLow (a := ⟨Z, 3, none⟩) hZ1 _).mono (by have := HZW.out; omega))
  · exact ((((HR3.out.base.setCell (p := ⟨Z, 0, none⟩) HR3.out.hR _).setCell (p := ⟨Z, 1, none⟩) HR3.out.hR _).setCell (p := ⟨Z, 2, none⟩) HR3.out.hR _).setCell (p := ⟨Z, 3, none⟩) HR3.out.hR _)

theorem tapeAddedI (x : Int) (w : World) : Calls Tryz.prog 51 #[.int .i64 x] w fun e w' => e = .returned (.func (.func 83) #[] #[.pointer (some ⟨w.heap.size, 0, none⟩)]) ∧ w' = w.alloc (.cells #[.int .i64 x] 2) := by
  have hmf : ∀ (fn : Fn) (first cap : Array Value) (w : World), (Instr.makeFunc fn first cap).run Tryz.prog w = .ok (.func fn first cap) w := fun _ _ _ _ => rfl
  go_enter Tryz.func51, Tryz.ntmps51
  go_wp2
  go_ret
  exact ⟨rfl, rfl⟩

set_option maxHeartbeats 8000000 in
theorem inSteps1 (l : L) (k st : Int) (aa ab : Option Addr) (na ca nb cb : Nat) (w : World) (cf : FuncId) (caps : Array Value) (hcf : ∀ (args : Array Value) (W : World), (callFunc cf args).run Tryz.prog W = .ok (.enter cf args) W) (g : Nat) (hg : w.cell? ⟨g, 0, none⟩ = some (.func (.func cf) #[] caps)) (lg : g < w.heap.size)
    (hC : ∀ W, Below w.heap.size w W → Calls Tryz.prog cf (#[.agg #[.int .i64 k, .int .i64 st, .slice aa na ca, .slice ab nb cb]] ++ caps) W fun e w' => StepR l W e w') :
    Calls Tryz.prog 46 #[.agg #[.int .i64 k, .int .i64 st, .slice aa na ca, .slice ab nb cb], .slice (some ⟨g, 0, none⟩) 1 1] w fun e w' => StepR l w e w' := by
  unfold StepR at hC ⊢
  have HCC := Lib.hid (fun W x (hW : K0 w x W) => hC W (K0.base hW))
  have HE0 := Lib.hid (show fewB l 150 = false → fewK l 150 = 0 ∧ fewA l 150 = [] ∧ fewN l 150 = [] from fun h => by unfold fewK fewA fewN; rw [h]; exact ⟨rfl, rfl, rfl⟩)
  obtain ⟨K, hK⟩ : ∃ K, K = fewK l 150 := ⟨_, rfl⟩
  obtain ⟨A, hA⟩ : ∃ A, A = fewA l 150 := ⟨_, rfl⟩
  obtain ⟨N, hN⟩ : ∃ N, N = fewN l 150 := ⟨_, rfl⟩
  obtain ⟨Q, hQ⟩ : ∃ Q, Q = fewB l 150 := ⟨_, rfl⟩
  rw [← hK, ← hA, ← hN, ← hQ] at HCC HE0 ⊢
  clear hK hA hN hQ hC
  have HK0 := Lib.hid (show K0 w #[.int .i64 k, .int .i64 st, .slice aa na ca, .slice ab nb cb] ((w.alloc (.cells #[.int .i64 k, .int .i64 st, .slice aa na ca, .slice ab nb cb] 27)).alloc (.cells #[Value.int .i64 0, .int .i64 0, .slice none 0 0, .slice none 0 0] 27)) from Below.refl _ _)
  have HC1 := Lib.hid (HCC.out _ _ HK0.out)
  have HS2 := Lib.hid (show ((w.alloc (.cells #[.int .i64 k, .int .i64 st, .slice aa na ca, .slice ab nb cb] 27)).alloc (.cells #[Value.int .i64 0, .int .i64 0, .slice none 0 0, .slice none 0 0] 27)).heap.size = w.heap.size + 2 by rw [size_alloc', size_alloc'])
  have q1 : g < w.heap.size + 1 := by omega
  clear HCC
  go_enter Tryz.func46, Tryz.ntmps46
  go_wp2_with fail
  refine wp_loop_rounds 2 ?_
  rw [rounds_succ]
  go_wp2_with fail
  refine HC1.out.mono ?_
  rintro e w3 ⟨va, vn, rfl, hbu, hb3⟩
  rw [HS2.out] at hbu hb3
  have hk3 : K0 w #[.int .i64 k, .int .i64 st, .slice aa na ca, .slice ab nb cb] w3 := hb3
  have HK3 := Lib.hid hk3
  have HBU := Lib.hid hbu
  have hbx := K0.box hk3
  have hres := K0.res hk3
  obtain ⟨a8, n8, c8, rfl, -⟩ := hbu.acc.shape'
  obtain ⟨items8, -, hnx8, -⟩ := hbu.rows
  obtain ⟨b8, m8, d8, rfl, -⟩ := hnx8.shape'
  obtain ⟨N0, hN0⟩ : ∃ x, x = w.heap.size := ⟨_, rfl⟩
  obtain ⟨Z, hZ⟩ : ∃ Z, Z = w.heap.size + 1 := ⟨_, rfl⟩
  have hbase := K0.base hk3
  have hsz := K0.size hk3
  have HBASE := Lib.hid hbase
  have hlN : N0 < w3.heap.size := by omega
  have hlZ : Z < w3.heap.size := by omega
  have HN := Lib.hid (show w.heap.size ≤ N0 ∧ N0 < w.heap.size + 2 ∧ w.heap.size ≤ Z ∧ Z < w.heap.size + 2 by omega)
  rw [← hN0] at hbx
  rw [← hZ] at hres
  have hgw : w3.cell? ⟨g, 0, none⟩ = some (.func (.func cf) #[] caps) := (hbase.cell (p := ⟨g, 0, none⟩) lg).trans hg
  have HZE := Lib.hid (show w.heap.size + 1 = Z from hZ.symm)
  have HNE := Lib.hid (show w.heap.size = N0 from hN0.symm)
  have hNZ : N0 ≠ Z := by omega
  have x0 := cells_get hbx 0
  have x1 := cells_get hbx 1
  have x2 := cells_get hbx 2
  have x3 := cells_get hbx 3
  have y0 := cells_free hbx 0
  have y1 := cells_free hbx 1
  have y2 := cells_free hbx 2
  have y3 := cells_free hbx 3
  have r0 := cells_get hres 0
  have r1 := cells_get hres 1
  have r2 := cells_get hres 2
  have r3 := cells_get hres 3
  have f0 := cells_free hres 0
  have f1 := cells_free hres 1
  have f2 := cells_free hres 2
  have f3 := cells_free hres 3
  simp at x0 x1 x2 x3 r0 r1 r2 r3
  have u0 := cells_set hbx 0 (.int .i64 K)
  have u1 := cells_set u0 1 (.int .i64 0)
  have u2 := cells_set u1 2 (.slice a8 n8 c8)
  have u3 := cells_set u2 3 (.slice b8 m8 d8)
  obtain ⟨W4, hW4⟩ : ∃ W4, W4 = ((((w3.setCell ⟨N0, 0, none⟩ (.int .i64 K)).setCell ⟨N0, 1, none⟩ (.int .i64 0)).setCell ⟨N0, 2, none⟩ (.slice a8 n8 c8)).setCell ⟨N0, 3, none⟩ (.slice b8 m8 d8)) := ⟨_, rfl⟩
  have hW3 : W4.heap[Z]? = some (.cells #[Value.int .i64 0, .int .i64 0, .slice none 0 0, .slice none 0 0] 27 (0, 0)) := by
    rw [hW4, Below.heap_setCell _ _ _ _ (fun e => hNZ e.symm), Below.heap_setCell _ _ _ _ (fun e => hNZ e.symm), Below.heap_setCell _ _ _ _ (fun e => hNZ e.symm), Below.heap_setCell _ _ _ _ (fun e => hNZ e.symm)]
    exact hres
  simp at u3
  have HW4 := Lib.hid hW4
  have HZ4 := Lib.hid hW3
  have HB4 := Lib.hid (show Below w.heap.size w W4 by rw [hW4]; exact ((((hbase.setCell (p := ⟨N0, 0, none⟩) HN.out.1 _).setCell (p := ⟨N0, 1, none⟩) HN.out.1 _).setCell (p := ⟨N0, 2, none⟩) HN.out.1 _).setCell (p := ⟨N0, 3, none⟩) HN.out.1 _))
  have HU4 := Lib.hid (show Built W4 (w.heap.size + 2) (.slice a8 n8 c8) (.slice b8 m8 d8) A N by rw [hW4]; exact ((((hbu.setLow (a := ⟨N0, 0, none⟩) HN.out.2.1 _).setLow (a := ⟨N0, 1, none⟩) HN.out.2.1 _).setLow (a := ⟨N0, 2, none⟩) HN.out.2.1 _).setLow (a := ⟨N0, 3, none⟩) HN.out.2.1 _))
  rw [HZE.out, HNE.out]
  clear hbase hsz hk3 hb3 hbx hres u0 u1 u2 u3 hnx8 hbu hW3 hW4 hN0 hZ HC1 HS2 HK0
  cases Q with
  | true =>
    have eQ : errV true 150 = .nilIface := rfl
    rw [eQ]
    go_wp2_with fail
    rw [rounds_succ]
    go_wp2_with fail
    rw [← HW4.out]
    obtain ⟨g0, g1, g2, g3⟩ := res4 (a := .int .i64 K) (b := .int .i64 0) (c := .slice a8 n8 c8) (d := .slice b8 m8 d8) HZ4.out
    refine bodyPost_ret (v := .tuple #[.agg #[.int .i64 K, .int .i64 0, .slice a8 n8 c8, .slice b8 m8 d8], .nilIface]) (by simp [results, Tryz.results46, go_sem, g0, g1, g2, g3]) rfl ⟨.slice a8 n8 c8, .slice b8 m8 d8, rfl, ?_, ?_⟩
    · exact (set4_built HU4.out HN.out.2.2.2).mono (by omega)
    · exact set4_below HB4.out HN.out.2.2.1
  | false =>
    have eQ : errV false 150 = .iface 113 (.int .i64 150) := rfl
    rw [eQ]
    go_wp2_with fail
    rw [← HW4.out]
    obtain ⟨rfl, rfl, rfl⟩ := HE0.out (by trivial)
    obtain ⟨g0, g1, g2, g3⟩ := res4 (a := .int .i64 0) (b := .int .i64 0) (c := .slice none 0 0) (d := .slice none 0 0) HZ4.out
    refine bodyPost_ret (v := .tuple #[.agg #[.int .i64 0, .int .i64 0, .slice none 0 0, .slice none 0 0], .iface 113 (.int .i64 150)]) (by simp [results, Tryz.results46, go_sem, g0, g1, g2, g3]) rfl ⟨.slice none 0 0, .slice none 0 0, rfl, ImplTidied.built_none _ _, ?_⟩
    exact set4_below HB4.out HN.out.2.2.1
end Go.Proofs.YtcpcbmappcndcaaGreatDoor.StepI
