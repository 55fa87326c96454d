
/- The automaton of the tuples that bear the same on two tapes, and what the program's sameOn and SameOn answer.
   Conditions: stated at each theorem. -/
import Derived.Test.YtcpcbmappcndcaaDoorSO1
import Derived.Test.YtcpcbmappcndcaaDoorFX10
import Derived.Test.YtcpcbmappcndcaaDoorFX21
import Derived.Test.YtcpcbmappcndcaaDoorFX28
import Derived.Test.YtcpcbmappcndcaaDoorFX22
import Derived.Deep.RegionHeld3
import Derived.Deep.DrawnRows
import Derived.Deep.QuietTactic
import Derived.BigQuiet
import Derived.Test.YtcpcbmappcndcaaDoorFX25
namespace Go.Proofs.YtcpcbmappcndcaaDoor.SameI
set_option linter.unusedVariables false
set_option linter.unusedSimpArgs false
set_option linter.ambiguousOpen false
set_option maxRecDepth 100000
open Go.RowKit Mem Copy Rel Valid Heap Bld Columns ColMath Numbers TidyMath TidyAuto TidyRight SpecFiner SpecRight ToL SpecTidyRel Automaton PairMath SameMath ErrCode OppImpl StepI TapeFn ImplRight ImplTidied OrdI

set_option maxHeartbeats 8000000 in
theorem equalRule (k a b : Nat) (h1 : 1 ≤ k) (h3 : k ≤ 3) (ha : a < k) (hb : b < k) (s c : Nat) (hc : c < wide k) (b4 b5 : Nat) (W : World) (h4 : W.cell? ⟨b4, 0, none⟩ = some (.int .i64 a)) (h5 : W.cell? ⟨b5, 0, none⟩ = some (.int .i64 b)) (l4 : b4 < W.heap.size) (l5 : b5 < W.heap.size) :
    Calls Tryd.prog 82 #[.int .i64 s, lettersV k c, .pointer (some ⟨b4, 0, none⟩), .pointer (some ⟨b5, 0, none⟩)] W fun e w' => e = .returned (.int .i64 ((eqN a b s c : Nat) : Int)) ∧ Below W.heap.size W w' := by
  have HO := let_off h1 h3 hc ha hb
  have HE0 := Lib.hid (show offB a b c = true → eqN a b s c = 1 from fun h => by unfold eqN; rw [if_pos h])
  have HE1 := Lib.hid (show offB a b c = false → eqN a b s c = s from fun h => by unfold eqN; rw [h]; rfl)
  obtain ⟨R, hR⟩ : ∃ x, x = eqN a b s c := ⟨_, rfl⟩
  obtain ⟨q, hq⟩ : ∃ x, x = offB a b c := ⟨_, rfl⟩
  rw [← hR, ← hq] at HE0 HE1
  rw [← hq] at HO
  rw [← hR]
  unfold lettersV
  obtain ⟨x0, hx0⟩ : ∃ x, x = letT k (c : Nat) 0 := ⟨_, rfl⟩
  obtain ⟨x1, hx1⟩ : ∃ x, x = letT k (c : Nat) 1 := ⟨_, rfl⟩
  obtain ⟨x2, hx2⟩ : ∃ x, x = letT k (c : Nat) 2 := ⟨_, rfl⟩
  rw [← hx0, ← hx1, ← hx2]
  obtain ⟨W1, hW1⟩ : ∃ W1, W1 = W.alloc (.cells #[.int .u8 x0, .int .u8 x1, .int .u8 x2] 82) := ⟨_, rfl⟩
  obtain ⟨N, hN⟩ : ∃ N, N = W.heap.size := ⟨_, rfl⟩
  have hb1 : W1.heap[N]? = some (.cells #[.int .u8 x0, .int .u8 x1, .int .u8 x2] 82 (0, 0)) := by rw [hW1, hN]; exact heap_alloc_new W _
  have y0 := cells_get hb1 0
  have y1 := cells_get hb1 1
  have y2 := cells_get hb1 2
  simp at y0 y1 y2
  have hbel : Below W.heap.size W W1 := by rw [hW1]; exact (Below.refl _ _).alloc (Nat.le_refl _) _
  have z4 := (hbel.cell (p := ⟨b4, 0, none⟩) l4).trans h4
  have z5 := (hbel.cell (p := ⟨b5, 0, none⟩) l5).trans h5
  have HBEL := Lib.hid hbel
  have HX0 := Lib.hid hx0
  have HX1 := Lib.hid hx1
  have HX2 := Lib.hid hx2
  have HW1 := Lib.hid hW1
  have HN := Lib.hid hN
  have HOO := Lib.hid HO
  clear hR hq h4 h5 l4 l5 hb1 hbel hx0 hx1 hx2 hW1 hN HO
  go_enter Tryd.func82, Tryd.ntmps82
  go_upto_region 1 with fail
  rw [← HW1.out, ← HN.out]
  have HO := HOO.out
  clear HOO
  have ha3 : a = 0 ∨ a = 1 ∨ a = 2 := by omega
  have hb3 : b = 0 ∨ b = 1 ∨ b = 2 := by omega
  cases q with
  | true =>
    obtain rfl := HE0.out rfl
    clear HE0 HE1
    rcases ha3 with rfl | rfl | rfl <;> rcases hb3 with rfl | rfl | rfl <;>
    (first | rw [← HX0.out] at HO | skip) <;> (first | rw [← HX1.out] at HO | skip) <;> (first | rw [← HX2.out] at HO | skip) <;>
    (have HO2 := of_decide_eq_true HO; clear HO HX0 HX1 HX2; first
      | exact absurd rfl HO2
      | (first | (have HO3 : (x0 != x1) = true := by simpa using HO2) | (have HO3 : (x0 != x2) = true := by simpa using HO2) | (have HO3 : (x1 != x0) = true := by simpa using HO2) | (have HO3 : (x1 != x2) = true := by simpa using HO2) | (have HO3 : (x2 != x0) = true := by simpa using HO2) | (have HO3 : (x2 != x1) = true := by simpa using HO2)
         go_quiet (fail)
         go_wp2_with fail
         go_ret
         exact ⟨rfl, below_drewN HBEL.out _⟩))
  | false =>
    obtain rfl := HE1.out rfl
    clear HE0 HE1
    rcases ha3 with rfl | rfl | rfl <;> rcases hb3 with rfl | rfl | rfl <;>
    (first | rw [← HX0.out] at HO | skip) <;> (first | rw [← HX1.out] at HO | skip) <;> (first | rw [← HX2.out] at HO | skip) <;>
    (have HO2 := of_decide_eq_false HO; clear HO HX0 HX1 HX2; have HO4 := Classical.not_not.1 HO2; clear HO2
     (first | subst HO4 | skip)
     (first | (have n0 : (x0 != x0) = false := by simp) | skip)
     (first | (have n1 : (x1 != x1) = false := by simp) | skip)
     (first | (have n2 : (x2 != x2) = false := by simp) | skip)
     go_quiet (fail)
     go_wp2_with fail
     go_ret
     exact ⟨rfl, below_drewN HBEL.out _⟩)
/-- Two boxes of numbers, the result's block, and what is made behind them. -/
def KE (w : World) (a b : Int) (W : World) : Prop := Below (w.heap.size + 3) (((w.alloc (.cells #[.int .i64 a] 2)).alloc (.cells #[.int .i64 b] 2)).alloc (.cells #[Value.int .i64 0, .int .i64 0, .slice none 0 0, .slice none 0 0] 27)) W
theorem KE.size3 (w : World) (a b : Int) : (((w.alloc (.cells #[.int .i64 a] 2)).alloc (.cells #[.int .i64 b] 2)).alloc (.cells #[Value.int .i64 0, .int .i64 0, .slice none 0 0, .slice none 0 0] 27)).heap.size = w.heap.size + 3 := by rw [size_alloc', size_alloc', size_alloc']
theorem KE.size {w W : World} {a b : Int} (h : KE w a b W) : w.heap.size + 3 ≤ W.heap.size := by have := Below.size h; rw [KE.size3] at this; exact this
theorem KE.base {w W : World} {a b : Int} (h : KE w a b W) : Below w.heap.size w W :=
  (base_box (base_box (base_box (Below.refl _ w) _) _) _).trans (Below.mono h (by omega))
theorem KE.box1 {w W : World} {a b : Int} (h : KE w a b W) : W.heap[w.heap.size]? = some (.cells #[.int .i64 a] 2 (0, 0)) := by
  rw [Below.block h _ (by omega), Below.heap_alloc _ _ _ (by rw [size_alloc', size_alloc']; omega), Below.heap_alloc _ _ _ (by rw [size_alloc']; omega)]; exact heap_alloc_new _ _
theorem KE.box2 {w W : World} {a b : Int} (h : KE w a b W) : W.heap[w.heap.size + 1]? = some (.cells #[.int .i64 b] 2 (0, 0)) := by
  rw [Below.block h _ (by omega), Below.heap_alloc _ _ _ (by rw [size_alloc', size_alloc']; omega)]
  have := heap_alloc_new (w.alloc (.cells #[.int .i64 a] 2)) (.cells #[.int .i64 b] 2)
  rwa [size_alloc'] at this
theorem KE.res {w W : World} {a b : Int} (h : KE w a b W) : W.heap[w.heap.size + 2]? = some (.cells #[Value.int .i64 0, .int .i64 0, .slice none 0 0, .slice none 0 0] 27 (0, 0)) := by
  rw [Below.block h _ (by omega)]
  have := heap_alloc_new ((w.alloc (.cells #[.int .i64 a] 2)).alloc (.cells #[.int .i64 b] 2)) (.cells #[Value.int .i64 0, .int .i64 0, .slice none 0 0, .slice none 0 0] 27)
  rwa [size_alloc', size_alloc'] at this
theorem eq_rows (k a b : Nat) : (relOf (eqL k a b)).next = autN k 2 (fun s c => ((eqN a b s c : Nat) : Int)) := by
  show (eqL k a b).nx.map ofN = _
  unfold eqL autN
  rw [List.map_map]
  refine List.map_congr_left fun s _ => ?_
  show ofN (List.map _ _) = _
  unfold ofN
  rw [List.map_map]
  rfl

set_option maxHeartbeats 8000000 in
theorem equalI (k a b : Nat) (h1 : 1 ≤ k) (h3 : k ≤ 3) (ha : a < k) (hb : b < k) (w : World) :
    Calls Tryd.prog 72 #[.int .i64 k, .int .i64 a, .int .i64 b] w fun e w' => ∃ va vn, e = .returned (.agg #[.int .i64 k, .int .i64 0, va, vn]) ∧ Built w' w.heap.size va vn (eqL k a b).acc (relOf (eqL k a b)).next ∧ Below w.heap.size w w' := by
  have hcf : ∀ (args : Array Value) (W : World), (callFunc 82 args).run Tryd.prog W = .ok (.enter 82 args) W := fun _ _ => rfl
  obtain ⟨W3, hW3⟩ : ∃ W3, W3 = (((w.alloc (.cells #[.int .i64 (a : Nat)] 2)).alloc (.cells #[.int .i64 (b : Nat)] 2)).alloc (.cells #[Value.int .i64 0, .int .i64 0, .slice none 0 0, .slice none 0 0] 27)) := ⟨_, rfl⟩
  have HK3 := Lib.hid (show KE w a b W3 from by rw [hW3]; exact Below.refl _ _)
  have hs3 : W3.heap.size = w.heap.size + 3 := by rw [hW3]; exact KE.size3 _ _ _
  have hl4 := Lst.lit W3 W3.heap.size 4 #[.bool true, .bool false] (Nat.le_refl _) (by decide)
  rw [hs3] at hl4
  obtain ⟨W4, hW4⟩ : ∃ W4, W4 = W3.alloc (.cells #[.bool true, .bool false] 4) := ⟨_, rfl⟩
  rw [← hW4] at hl4
  have HL4 := Lib.hid (show Lst W4 (w.heap.size + 3) 4 (.slice (some ⟨w.heap.size + 3, 0, none⟩) 2 2) ([true, false].map Value.bool) from hl4)
  have hb34 : Below W3.heap.size W3 W4 := by rw [hW4]; exact (Below.refl _ _).alloc (Nat.le_refl _) _
  have HK4 := Lib.hid (show KE w a b W4 from Below.trans HK3.out (hb34.mono (KE.size HK3.out)))
  have HAU := Lib.hid (automaton k h1 h3 (.slice (some ⟨w.heap.size + 3, 0, none⟩) 2 2) [true, false] W4 W4.heap.size (lst_bools HL4.out _ (Nat.le_refl _)) (Nat.le_refl _) (by decide) 82 hcf
    #[.pointer (some ⟨w.heap.size, 0, none⟩), .pointer (some ⟨w.heap.size + 1, 0, none⟩)] (fun s c => ((eqN a b s c : Nat) : Int)) (fun W hb' s c hs hc => by
      have hk : KE w a b W := Below.trans HK4.out (hb'.mono (KE.size HK4.out))
      exact equalRule k a b h1 h3 ha hb s c hc w.heap.size (w.heap.size + 1) W (by rw [cells_get (KE.box1 hk)]; rfl) (by rw [cells_get (KE.box2 hk)]; rfl) (by have := KE.size hk; omega) (by have := KE.size hk; omega)))
  rw [eq_rows]
  obtain ⟨RW, hRW⟩ : ∃ x, x = autN k 2 (fun s c => ((eqN a b s c : Nat) : Int)) := ⟨_, rfl⟩
  rw [show ([true, false] : List Bool).length = 2 from rfl, ← hRW] at HAU
  rw [← hRW]
  have hmf : ∀ (fn : Fn) (first cap : Array Value) (w : World), (Instr.makeFunc fn first cap).run Tryd.prog w = .ok (.func fn first cap) w := fun _ _ _ _ => rfl
  rw [hW4, hW3] at HAU
  have HW34 := Lib.hid (show W4 = (((w.alloc (.cells #[.int .i64 (a : Nat)] 2)).alloc (.cells #[.int .i64 (b : Nat)] 2)).alloc (.cells #[Value.int .i64 0, .int .i64 0, .slice none 0 0, .slice none 0 0] 27)).alloc (.cells #[.bool true, .bool false] 4) from by rw [hW4, hW3])
  clear hW3 hW4 hRW hcf hs3 hl4 hb34 ha hb h1 h3 HK3
  go_enter Tryd.func72, Tryd.ntmps72
  go_wp2_with fail
  refine HAU.out.mono ?_
  rintro e w5 ⟨vn, rfl, hbu, hb5⟩
  rw [← HW34.out] at hbu hb5
  have HK5 := Lib.hid (show KE w a b w5 from Below.trans HK4.out (hb5.mono (KE.size HK4.out)))
  have HBU := Lib.hid (show Built w5 (w.heap.size + 3) (.slice (some ⟨w.heap.size + 3, 0, none⟩) 2 2) vn [true, false] RW from built_with (hbu.mono (KE.size HK4.out)) (HL4.out.below hb5))
  obtain ⟨items7, -, hnx7, -⟩ := hbu.rows
  obtain ⟨b7, m7, d7, rfl, -⟩ := hnx7.shape'
  have r0 := cells_get (KE.res HK5.out) 0
  have r1 := cells_get (KE.res HK5.out) 1
  have r2 := cells_get (KE.res HK5.out) 2
  have r3 := cells_get (KE.res HK5.out) 3
  have f0 := cells_free (KE.res HK5.out) 0
  have f1 := cells_free (KE.res HK5.out) 1
  have f2 := cells_free (KE.res HK5.out) 2
  have f3 := cells_free (KE.res HK5.out) 3
  have hlS := lt_of_block (KE.res HK5.out)
  simp at r0 r1 r2 r3
  clear hbu hb5 hnx7 HAU HW34
  go_wp2_with fail
  obtain ⟨g0, g1, g2, g3⟩ := res4 (a := .int .i64 (k : Nat)) (b := .int .i64 0) (c := .slice (some ⟨w.heap.size + 3, 0, none⟩) 2 2) (d := .slice b7 m7 d7) (KE.res HK5.out)
  refine bodyPost_ret (v := .agg #[.int .i64 (k : Nat), .int .i64 0, .slice (some ⟨w.heap.size + 3, 0, none⟩) 2 2, .slice b7 m7 d7]) (by simp [results, Tryd.results72, go_sem, g0, g1, g2, g3]) rfl ⟨_, _, rfl, ?_, ?_⟩
  · exact (set4_built HBU.out (by omega)).mono (by omega)
  · exact set4_below (KE.base HK5.out) (by omega)

theorem bothI' (a b : Bool) (W : World) : Calls Tryd.prog 73 #[.bool a, .bool b] W fun e w' => e = .returned (.bool ((fun x y => x && y) a b)) ∧ W = w' := by
  cases a <;> cases b <;> (go_enter Tryd.func73, Tryd.ntmps73; go_wp2_with fail; go_ret; exact ⟨rfl, rfl⟩)
end Go.Proofs.YtcpcbmappcndcaaDoor.SameI
/- What the program's SameOn hands back.
   Conditions: the relation is read as XRel's text says. -/
namespace Go.Proofs.YtcpcbmappcndcaaDoor.SameFn
set_option linter.unusedVariables false
set_option linter.unusedSimpArgs false
set_option linter.ambiguousOpen false
set_option maxRecDepth 100000
open Go.RowKit Mem Copy Rel Valid Heap Bld Columns ColMath TidyMath TidyAuto TidyRight SpecFiner SpecRight ToL SpecTidyRel PairMath SameMath ErrCode OppImpl StepI TapeFn ImplRight ImplTidied OrdI SameI

theorem few_same {l m : L} (hk : l.k = m.k) (ha : tidyAcc l = tidyAcc m) (hn : tidyNext l = tidyNext m) (q : Nat) : fewB l q = fewB m q ∧ fewK l q = fewK m q ∧ fewA l q = fewA m q ∧ fewN l q = fewN m q := by
  unfold fewK fewA fewN fewB
  rw [hk, ha, hn]
  exact ⟨rfl, rfl, rfl, rfl⟩

set_option maxHeartbeats 8000000 in
theorem sameOnI (l : L) (hl : l.Ok) (hn : l.acc.length ≤ 500) (a b : Nat) (ha : a < l.k) (hb : b < l.k) (v : Value) (w : World) (B : Nat) (h : RelAt w B v (relOf l)) (hB : B ≤ w.heap.size) :
    Calls Tryd.prog 47 #[v, .int .i64 a, .int .i64 b] w fun e w' => ∃ va vn, e = .returned (.tuple #[.agg #[.int .i64 (fewK (exL l a b) 150), .int .i64 0, va, vn], errV (fewB (exL l a b) 150) 150]) ∧ Built w' w.heap.size va vn (fewA (exL l a b) 150) (fewN (exL l a b) 150) ∧ Below w.heap.size w w' := by
  have hk1 := hl.k0
  have hk3 := hl.k3
  have he := eq_ok hk1 hk3 a b
  obtain ⟨kn, hkn⟩ : ∃ kn, kn = l.k := ⟨_, rfl⟩
  have HEQ := Lib.hid (fun W => equalI kn a b (by omega) (by omega) (by omega) (by omega) W)
  obtain ⟨M, hM⟩ : ∃ M, M = eqL kn a b := ⟨_, rfl⟩
  have HMR := Lib.hid (show relOf M = ⟨(kn : Int), 0, M.acc, (relOf M).next⟩ from by rw [hM]; rfl)
  obtain ⟨X, hX⟩ : ∃ X, X = pairL (fun x y => x && y) l M := ⟨_, rfl⟩
  have HPA := Lib.hid (fun W (hbw : Below w.heap.size w W) v2 (h2 : RelAt W W.heap.size v2 (relOf M)) => (show Calls Tryd.prog 71 #[v, v2, .func (.func 73) #[] #[]] W (fun e w' => ∃ va vn, e = .returned (.agg #[.int .i64 X.k, .int .i64 X.start, va, vn]) ∧ Built w' W.heap.size va vn X.acc (relOf X).next ∧ Below W.heap.size W w') from by
    rw [hX, hM]
    rw [hM] at h2
    exact PairsI.pairsI (fun x y => x && y) l (eqL kn a b) hl (by rw [hkn]; exact he) hkn.symm v v2 73 (fun _ _ => rfl) bothI' W W.heap.size ((h.below hbw hB).mono (Nat.le_trans hB hbw.size)) h2 (Nat.le_refl _) (by show l.acc.length * 2 ≤ 1000; omega)))
  have hXok : X.Ok := by rw [hX, hM, hkn]; exact pairL_ok _ hl he rfl
  obtain ⟨e1, e2, e3, e4⟩ := few_same (l := X) (m := exL l a b) (by rw [hX]; rfl) (by rw [hX, hM, hkn]; exact (same_tidy hl a b).1) (by rw [hX, hM, hkn]; exact (same_tidy hl a b).2) 150
  rw [← e1, ← e2, ← e3, ← e4]
  have HTS := Lib.hid (fun W v2 (h2 : RelAt W W.heap.size v2 (relOf X)) => tidyStepI X hXok v2 W W.heap.size h2 (Nat.le_refl _) (by rw [hX, pairL_len, hM]; show l.acc.length * 2 ≤ 100000; omega))
  have HXR := Lib.hid (show relOf X = ⟨(X.k : Nat), (X.start : Nat), X.acc, (relOf X).next⟩ from rfl)
  obtain ⟨cK, hcK⟩ : ∃ x, x = fewK X 150 := ⟨_, rfl⟩
  obtain ⟨cB, hcB⟩ : ∃ x, x = fewB X 150 := ⟨_, rfl⟩
  obtain ⟨cA, hcA⟩ : ∃ x, x = fewA X 150 := ⟨_, rfl⟩
  obtain ⟨cN, hcN⟩ : ∃ x, x = fewN X 150 := ⟨_, rfl⟩
  rw [← hcK, ← hcB, ← hcA, ← hcN] at HTS ⊢
  obtain ⟨xk, hxk⟩ : ∃ x, x = X.k := ⟨_, rfl⟩
  obtain ⟨xs, hxs⟩ : ∃ x, x = X.start := ⟨_, rfl⟩
  obtain ⟨xa, hxa⟩ : ∃ x, x = X.acc := ⟨_, rfl⟩
  rw [← hxk, ← hxs, ← hxa] at HPA HXR
  obtain ⟨RM, hRM⟩ : ∃ x, x = relOf M := ⟨_, rfl⟩
  rw [← hM] at HEQ
  rw [← hRM] at HMR HPA HEQ
  obtain ⟨RX, hRX⟩ : ∃ x, x = relOf X := ⟨_, rfl⟩
  rw [← hRX] at HXR HPA HTS
  clear hcK hcB hcA hcN hxk hxs hxa hRM hRX hXok he hM hX e1 e2 e3 e4 hn
  have htk : (relOf l).tapes = (kn : Int) := by rw [hkn]; rfl
  obtain ⟨va, vn, rfl, hacc, hx⟩ := h
  obtain ⟨aa, ba, oa, ca, rfl, -, -, -⟩ := hacc
  obtain ⟨-, ⟨ab, bb, ob, cb, rfl, -, -, -⟩, -⟩ := hx
  obtain ⟨st, hs⟩ : ∃ st : Int, st = (relOf l).start := ⟨_, rfl⟩
  obtain ⟨na, hna⟩ : ∃ na, na = (relOf l).accept.length := ⟨_, rfl⟩
  obtain ⟨nb, hnb⟩ : ∃ nb, nb = (relOf l).next.length := ⟨_, rfl⟩
  rw [htk, ← hs, ← hna, ← hnb] at HPA
  rw [htk, ← hs, ← hna, ← hnb]
  obtain ⟨W2, hW2⟩ : ∃ W2, W2 = ((w.alloc (.cells #[.int .i64 (kn : Nat), .int .i64 st, .slice aa na ca, .slice ab nb cb] 27)).alloc (.cells #[Value.int .i64 0, .int .i64 0, .slice none 0 0, .slice none 0 0] 27)) := ⟨_, rfl⟩
  have HK0 := Lib.hid (show K0 w #[.int .i64 (kn : Nat), .int .i64 st, .slice aa na ca, .slice ab nb cb] W2 from by rw [hW2]; exact Below.refl _ _)
  have HW2 := Lib.hid hW2
  have HST := Lib.hid (fun W W' (h : K0 w #[.int .i64 (kn : Nat), .int .i64 st, .slice aa na ca, .slice ab nb cb] W) (hb : Below W.heap.size W W') => (show K0 w #[.int .i64 (kn : Nat), .int .i64 st, .slice aa na ca, .slice ab nb cb] W' from Below.trans h (hb.mono (K0.size h))))
  have HS := Lib.hid (fun W (h : K0 w #[.int .i64 (kn : Nat), .int .i64 st, .slice aa na ca, .slice ab nb cb] W) => (show W.cell? ⟨w.heap.size, 0, none⟩ = some (.int .i64 (kn : Nat)) ∧ W.cell? ⟨w.heap.size, 1, none⟩ = some (.int .i64 st) ∧ W.cell? ⟨w.heap.size, 2, none⟩ = some (.slice aa na ca) ∧ W.cell? ⟨w.heap.size, 3, none⟩ = some (.slice ab nb cb) from
    ⟨by rw [cells_get (K0.box h)]; rfl, by rw [cells_get (K0.box h)]; rfl, by rw [cells_get (K0.box h)]; rfl, by rw [cells_get (K0.box h)]; rfl⟩))
  have HKD := Lib.hid (show K0 w #[.int .i64 (kn : Nat), .int .i64 st, .slice aa na ca, .slice ab nb cb] W2.drew from below_drewN HK0.out 1)
  clear hs hna hnb hW2 htk hB hl hk1 hk3 ha hb hkn
  obtain ⟨q0, q1, q2, q3⟩ := HS.out _ HKD.out
  go_enter Tryd.func47, Tryd.ntmps47
  go_upto_region 1 with fail
  rw [← HW2.out]
  go_region_held3 (fun w' => w'.cell? ⟨w.heap.size, 0, none⟩ = some (.int .i64 (kn : Nat)) ∧ w'.cell? ⟨w.heap.size, 1, none⟩ = some (.int .i64 st) ∧ w'.cell? ⟨w.heap.size, 2, none⟩ = some (.slice aa na ca) ∧ w'.cell? ⟨w.heap.size, 3, none⟩ = some (.slice ab nb cb))
    (first | exact HS.out _ HKD.out | exact HS.out _ HK4.out | exact HS.out _ HK5.out | exact HS.out _ HK6.out | go_keep)
    (first
      | (go_at_call 72; refine (HEQ.out _).mono ?_; rintro e w4 ⟨va4, vn4, rfl, hbu4, hb4⟩; have HK4 := Lib.hid (HST.out _ _ HKD.out hb4); have HR4 := Lib.hid (show RelAt w4 w4.heap.size (.agg #[.int .i64 (kn : Nat), .int .i64 0, va4, vn4]) RM from by rw [HMR.out]; exact hbu4.reads w4.heap.size (Nat.le_refl _) _ _); clear hbu4 hb4)
      | (go_at_call 71; refine (HPA.out _ (K0.base HK4.out) _ HR4.out).mono ?_; rintro e w5 ⟨va5, vn5, rfl, hbu5, hb5⟩; have HK5 := Lib.hid (HST.out _ _ HK4.out hb5); have HR5 := Lib.hid (show RelAt w5 w5.heap.size (.agg #[.int .i64 (xk : Nat), .int .i64 (xs : Nat), va5, vn5]) RX from by rw [HXR.out]; exact hbu5.reads w5.heap.size (Nat.le_refl _) _ _); clear hbu5 hb5)
      | (go_at_call 61; refine (HTS.out _ _ HR5.out).mono ?_; rintro e w6 ⟨va6, vn6, rfl, hbu6, hb6⟩; have HK6 := Lib.hid (HST.out _ _ HK5.out hb6); have HBU := Lib.hid (hbu6.mono (K0.size HK5.out)); obtain ⟨a6, n6, c6, rfl, -⟩ := hbu6.acc.shape'; obtain ⟨items6, -, hnx6, -⟩ := hbu6.rows; obtain ⟨b6, m6, d6, rfl, -⟩ := hnx6.shape'; have r0 := cells_get (K0.res HK6.out) 0; have r1 := cells_get (K0.res HK6.out) 1; have r2 := cells_get (K0.res HK6.out) 2; have r3 := cells_get (K0.res HK6.out) 3; have f0 := cells_free (K0.res HK6.out) 0; have f1 := cells_free (K0.res HK6.out) 1; have f2 := cells_free (K0.res HK6.out) 2; have f3 := cells_free (K0.res HK6.out) 3; have hlS := lt_of_block (K0.res HK6.out); simp at r0 r1 r2 r3; clear hbu6 hb6 hnx6))
  all_goals
    go_wp2_with fail
    obtain ⟨g0, g1, g2, g3⟩ := res4 (a := .int .i64 cK) (b := .int .i64 0) (c := .slice a6 n6 c6) (d := .slice b6 m6 d6) (K0.res HK6.out)
    refine bodyPost_ret (v := .tuple #[.agg #[.int .i64 cK, .int .i64 0, .slice a6 n6 c6, .slice b6 m6 d6], errV cB 150]) (by simp [results, Tryd.results47, go_sem, g0, g1, g2, g3]) rfl ⟨.slice a6 n6 c6, .slice b6 m6 d6, rfl, ?_, ?_⟩
    · exact (set4_built HBU.out (by omega)).mono (by omega)
    · exact set4_below (K0.base HK6.out) (Nat.le_succ _)
def sameC (r : R) (x y : Int) : Int := if okB r = true then (if (0 ≤ x ∧ x < r.tapes) ∧ (0 ≤ y ∧ y < r.tapes) ∧ x ≠ y then 0 else 2) else 1
def sameX (r : R) (x y : Int) : L := exL (toL r) x.toNat y.toNat
theorem same_ok {r : R} {x y : Int} (h : sameC r x y = 0) : okB r = true ∧ (0 ≤ x ∧ x < r.tapes) ∧ (0 ≤ y ∧ y < r.tapes) ∧ x ≠ y := by
  unfold sameC at h
  by_cases hok : okB r = true
  · rw [if_pos hok] at h
    by_cases h2 : (0 ≤ x ∧ x < r.tapes) ∧ (0 ≤ y ∧ y < r.tapes) ∧ x ≠ y
    · exact ⟨hok, h2⟩
    · rw [if_neg h2] at h; omega
  · rw [if_neg hok] at h; omega

set_option maxHeartbeats 8000000 in
theorem implSame (v : Value) (r : R) (x y : Int) (w : World) (B : Nat) (h : RelAt w B v r) (hB : B ≤ w.heap.size) (hg : Laid w) :
    Calls Tryd.prog 16 #[v, .int .i64 x, .int .i64 y] w fun e w' => ∃ va vn, e = .returned (.tuple #[.agg #[.int .i64 (ansK (sameC r x y) (sameX r x y)), .int .i64 0, va, vn], .int .i64 (ansC (sameC r x y) (sameX r x y))]) ∧ Built w' w.heap.size va vn (ansA (sameC r x y) (sameX r x y)) (ansN (sameC r x y) (sameX r x y)) ∧ Below w.heap.size w w' := by
  have HV := Lib.hid (fun W (hb : Below w.heap.size w W) => ValidImpl.implValid v r W B (h.below hb hB) (Nat.le_trans hB hb.size))
  have HGL := Lib.hid (fun W (hb : Below w.heap.size w W) => hg.below hb)
  have HFX := Lib.hid (fun (h0 : sameC r x y = 0) W (hb : Below w.heap.size w W) => (show Calls Tryd.prog 47 #[v, .int .i64 x, .int .i64 y] W fun e w' => ∃ va vn, e = .returned (.tuple #[.agg #[.int .i64 (fewK (sameX r x y) 150), .int .i64 0, va, vn], errV (fewB (sameX r x y) 150) 150]) ∧ Built w' W.heap.size va vn (fewA (sameX r x y) 150) (fewN (sameX r x y) 150) ∧ Below W.heap.size W w' from by
    obtain ⟨h1, hx, hy, -⟩ := same_ok h0
    have ek : (toL r).k = r.tapes.toNat := rfl
    have hh := sameOnI (toL r) (okL h1).1.2 (by have := (okL h1).2; omega) x.toNat y.toNat (by omega) (by omega) v W W.heap.size (by rw [(okL h1).1.1]; exact (h.below hb hB).mono (Nat.le_trans hB hb.size)) (Nat.le_refl _)
    rw [show ((x.toNat : Nat) : Int) = x by omega, show ((y.toNat : Nat) : Int) = y by omega] at hh
    exact hh))
  have HN0 := Lib.hid (fun (h0 : sameC r x y ≠ 0) => ans_no (sameX r x y) h0)
  have HC0 := Lib.hid (fun (h0 : sameC r x y = 0) => ans_yes (sameX r x y) h0)
  have HF0 := Lib.hid (fun (hq : fewB (sameX r x y) 150 = false) => few_no (sameX r x y) hq)
  have HE0 := Lib.hid (show okB r = false → sameC r x y = 1 from fun h => by simp [sameC, h])
  have HE1 := Lib.hid (show okB r = true → sameC r x y = if (0 ≤ x ∧ x < r.tapes) ∧ (0 ≤ y ∧ y < r.tapes) ∧ x ≠ y then 0 else 2 from fun h => by unfold sameC; rw [if_pos h])
  obtain ⟨X, hX⟩ : ∃ z, z = sameX r x y := ⟨_, rfl⟩
  obtain ⟨C0, hC0⟩ : ∃ z, z = sameC r x y := ⟨_, rfl⟩
  rw [← hX, ← hC0] at HFX HN0 HC0
  rw [← hX] at HF0
  rw [← hC0] at HE0 HE1
  rw [← hX, ← hC0]
  obtain ⟨cC, hcC⟩ : ∃ z, z = ansC C0 X := ⟨_, rfl⟩
  obtain ⟨cK, hcK⟩ : ∃ z, z = ansK C0 X := ⟨_, rfl⟩
  obtain ⟨cA, hcA⟩ : ∃ z, z = ansA C0 X := ⟨_, rfl⟩
  obtain ⟨cN, hcN⟩ : ∃ z, z = ansN C0 X := ⟨_, rfl⟩
  rw [← hcC, ← hcK, ← hcA, ← hcN] at HN0 HC0 ⊢
  obtain ⟨q, hq⟩ : ∃ z, z = okB r := ⟨_, rfl⟩
  rw [← hq] at HV HE0 HE1
  clear hX hC0 hcC hcK hcA hcN hq hg
  obtain ⟨va, vn, rfl, ha, hx⟩ := h
  obtain ⟨aa, ba, oa, ca, rfl, -, -, -⟩ := ha
  obtain ⟨-, ⟨ab, bb, ob, cb, rfl, -, -, -⟩, -⟩ := hx
  obtain ⟨k, hk⟩ : ∃ k : Int, k = r.tapes := ⟨_, rfl⟩
  obtain ⟨st, hs⟩ : ∃ st : Int, st = r.start := ⟨_, rfl⟩
  obtain ⟨na, hna⟩ : ∃ na, na = r.accept.length := ⟨_, rfl⟩
  obtain ⟨nb, hnb⟩ : ∃ nb, nb = r.next.length := ⟨_, rfl⟩
  rw [← hk, ← hs, ← hna, ← hnb] at HV HFX
  rw [← hk] at HE1
  rw [← hk, ← hs, ← hna, ← hnb]
  have HHX := Lib.hid (fun W => hasTapeI k st aa ab na ca nb cb x W)
  have HHY := Lib.hid (fun W => hasTapeI k st aa ab na ca nb cb y W)
  have HK0 := Lib.hid (show K0 w #[.int .i64 k, .int .i64 st, .slice aa na ca, .slice ab nb cb] ((w.alloc (.cells #[.int .i64 k, .int .i64 st, .slice aa na ca, .slice ab nb cb] 27)).alloc (.cells #[Value.int .i64 0, .int .i64 0, .slice none 0 0, .slice none 0 0] 27)) from Below.refl _ _)
  have HV1 := Lib.hid (HV.out _ (K0.base HK0.out))
  have HST := Lib.hid (fun W W' (h : K0 w #[.int .i64 k, .int .i64 st, .slice aa na ca, .slice ab nb cb] W) (hb : Below W.heap.size W W') => (show K0 w #[.int .i64 k, .int .i64 st, .slice aa na ca, .slice ab nb cb] W' from Below.trans h (hb.mono (K0.size h))))
  clear hk hs hna hnb HV hB
  go_enter Tryd.func16, Tryd.ntmps16
  go_wp2_with fail
  refine HV1.out.mono ?_
  rintro e w3 ⟨rfl, hb3⟩
  have hk3 : K0 w #[.int .i64 k, .int .i64 st, .slice aa na ca, .slice ab nb cb] w3 := by
    have h1 := hb3
    rw [size_alloc', size_alloc'] at h1
    exact h1
  have HK3 := Lib.hid hk3
  have r0 := cells_get (K0.res hk3) 0
  have r1 := cells_get (K0.res hk3) 1
  have r2 := cells_get (K0.res hk3) 2
  have r3 := cells_get (K0.res hk3) 3
  have f0 := cells_free (K0.res hk3) 0
  have f1 := cells_free (K0.res hk3) 1
  have f2 := cells_free (K0.res hk3) 2
  have f3 := cells_free (K0.res hk3) 3
  have hlS := lt_of_block (K0.res hk3)
  have x0 := cells_get (K0.box hk3) 0
  have x1 := cells_get (K0.box hk3) 1
  have x2 := cells_get (K0.box hk3) 2
  have x3 := cells_get (K0.box hk3) 3
  simp at r0 r1 r2 r3 x0 x1 x2 x3
  clear hb3 hk3 HV1 HK0
  cases q with
  | false =>
    have hc := HE0.out rfl
    subst hc
    obtain ⟨rfl, rfl, rfl, rfl⟩ := HN0.out (by decide)
    clear HN0 HC0 HF0 HE0 HE1 HFX HGL HHX HHY
    go_wp2_with fail
    obtain ⟨g0, g1, g2, g3⟩ := res4 (a := .int .i64 0) (b := .int .i64 0) (c := .slice none 0 0) (d := .slice none 0 0) (K0.res HK3.out)
    refine bodyPost_ret (v := .tuple #[.agg #[.int .i64 0, .int .i64 0, .slice none 0 0, .slice none 0 0], .int .i64 1]) (by simp [results, Tryd.results16, go_sem, g0, g1, g2, g3]) rfl ⟨.slice none 0 0, .slice none 0 0, rfl, ImplTidied.built_none _ _, ?_⟩
    exact set4_below (K0.base HK3.out) (Nat.le_succ _)
  | true =>
    have HE2 := Lib.hid (HE1.out rfl)
    clear HE0 HE1
    by_cases hx : 0 ≤ x ∧ x < k
    · have dx : decide (0 ≤ x ∧ x < k) = true := decide_eq_true hx
      rw [dx] at HHX
      by_cases hy : 0 ≤ y ∧ y < k
      · have dy : decide (0 ≤ y ∧ y < k) = true := decide_eq_true hy
        rw [dy] at HHY
        by_cases hxy : x = y
        · have hc : C0 = 2 := by rw [HE2.out, if_neg (fun h => h.2.2 hxy)]
          subst hc
          obtain ⟨rfl, rfl, rfl, rfl⟩ := HN0.out (by decide)
          have hxe : (x == y) = true := by simpa using hxy
          clear HN0 HC0 HF0 HE2 HFX HGL hx hy hxy dx dy
          go_wp2_with (first
            | (go_at_call_of 46 x; refine (HHX.out _).mono ?_; rintro e w4 ⟨rfl, hb4⟩; have HK4 := Lib.hid (HST.out _ _ HK3.out hb4); clear hb4 r0 r1 r2 r3 f0 f1 f2 f3 hlS x0 x1 x2 x3; have x0 := cells_get (K0.box HK4.out) 0; have x1 := cells_get (K0.box HK4.out) 1; have x2 := cells_get (K0.box HK4.out) 2; have x3 := cells_get (K0.box HK4.out) 3; have hl4 := lt_of_block (K0.box HK4.out); have r0 := cells_get (K0.res HK4.out) 0; have r1 := cells_get (K0.res HK4.out) 1; have r2 := cells_get (K0.res HK4.out) 2; have r3 := cells_get (K0.res HK4.out) 3; have f0 := cells_free (K0.res HK4.out) 0; have f1 := cells_free (K0.res HK4.out) 1; have f2 := cells_free (K0.res HK4.out) 2; have f3 := cells_free (K0.res HK4.out) 3; have hlS := lt_of_block (K0.res HK4.out); simp at x0 x1 x2 x3 r0 r1 r2 r3)
            | (go_at_call_of 46 y; refine (HHY.out _).mono ?_; rintro e w5 ⟨rfl, hb5⟩; have HK5 := Lib.hid (HST.out _ _ HK4.out hb5); clear hb5 r0 r1 r2 r3 f0 f1 f2 f3 hlS x0 x1 x2 x3; have x0 := cells_get (K0.box HK5.out) 0; have x1 := cells_get (K0.box HK5.out) 1; have x2 := cells_get (K0.box HK5.out) 2; have x3 := cells_get (K0.box HK5.out) 3; have hl5 := lt_of_block (K0.box HK5.out); have r0 := cells_get (K0.res HK5.out) 0; have r1 := cells_get (K0.res HK5.out) 1; have r2 := cells_get (K0.res HK5.out) 2; have r3 := cells_get (K0.res HK5.out) 3; have f0 := cells_free (K0.res HK5.out) 0; have f1 := cells_free (K0.res HK5.out) 1; have f2 := cells_free (K0.res HK5.out) 2; have f3 := cells_free (K0.res HK5.out) 3; have hlS := lt_of_block (K0.res HK5.out); simp at x0 x1 x2 x3 r0 r1 r2 r3))
          obtain ⟨g0, g1, g2, g3⟩ := res4 (a := .int .i64 0) (b := .int .i64 0) (c := .slice none 0 0) (d := .slice none 0 0) (K0.res HK5.out)
          refine bodyPost_ret (v := .tuple #[.agg #[.int .i64 0, .int .i64 0, .slice none 0 0, .slice none 0 0], .int .i64 2]) (by simp [results, Tryd.results16, go_sem, g0, g1, g2, g3]) rfl ⟨.slice none 0 0, .slice none 0 0, rfl, ImplTidied.built_none _ _, ?_⟩
          exact set4_below (K0.base HK5.out) (Nat.le_succ _)
        · have hc : C0 = 0 := by rw [HE2.out, if_pos ⟨hx, hy, hxy⟩]
          have HX1 := Lib.hid (HFX.out hc)
          obtain ⟨eC, eK, eA, eN⟩ := HC0.out hc
          rw [← eK, ← eA, ← eN] at HX1
          have HX0 := Lib.hid (fun hq => (show cK = 0 ∧ cA = [] ∧ cN = [] from by rw [eK, eA, eN]; exact HF0.out hq))
          have HC := Lib.hid eC
          have hxe : (x == y) = false := by simpa using hxy
          obtain ⟨Q, hQ⟩ : ∃ z, z = fewB X 150 := ⟨_, rfl⟩
          rw [← hQ] at HX1 HX0 HC
          clear HN0 HC0 HF0 HE2 HFX hx hy hxy dx dy eC eK eA eN hQ
          go_wp2_with (first
            | (go_at_call_of 46 x; refine (HHX.out _).mono ?_; rintro e w4 ⟨rfl, hb4⟩; have HK4 := Lib.hid (HST.out _ _ HK3.out hb4); clear hb4 r0 r1 r2 r3 f0 f1 f2 f3 hlS x0 x1 x2 x3; have x0 := cells_get (K0.box HK4.out) 0; have x1 := cells_get (K0.box HK4.out) 1; have x2 := cells_get (K0.box HK4.out) 2; have x3 := cells_get (K0.box HK4.out) 3; have hl4 := lt_of_block (K0.box HK4.out); have r0 := cells_get (K0.res HK4.out) 0; have r1 := cells_get (K0.res HK4.out) 1; have r2 := cells_get (K0.res HK4.out) 2; have r3 := cells_get (K0.res HK4.out) 3; have f0 := cells_free (K0.res HK4.out) 0; have f1 := cells_free (K0.res HK4.out) 1; have f2 := cells_free (K0.res HK4.out) 2; have f3 := cells_free (K0.res HK4.out) 3; have hlS := lt_of_block (K0.res HK4.out); simp at x0 x1 x2 x3 r0 r1 r2 r3)
            | (go_at_call_of 46 y; refine (HHY.out _).mono ?_; rintro e w5 ⟨rfl, hb5⟩; have HK5 := Lib.hid (HST.out _ _ HK4.out hb5); clear hb5 r0 r1 r2 r3 f0 f1 f2 f3 hlS x0 x1 x2 x3; have x0 := cells_get (K0.box HK5.out) 0; have x1 := cells_get (K0.box HK5.out) 1; have x2 := cells_get (K0.box HK5.out) 2; have x3 := cells_get (K0.box HK5.out) 3; have hl5 := lt_of_block (K0.box HK5.out); have r0 := cells_get (K0.res HK5.out) 0; have r1 := cells_get (K0.res HK5.out) 1; have r2 := cells_get (K0.res HK5.out) 2; have r3 := cells_get (K0.res HK5.out) 3; have f0 := cells_free (K0.res HK5.out) 0; have f1 := cells_free (K0.res HK5.out) 1; have f2 := cells_free (K0.res HK5.out) 2; have f3 := cells_free (K0.res HK5.out) 3; have hlS := lt_of_block (K0.res HK5.out); simp at x0 x1 x2 x3 r0 r1 r2 r3)
            | (go_at_call 47; refine (HX1.out _ (K0.base HK5.out)).mono ?_; rintro e w6 ⟨va, vn, rfl, hbu, hb6⟩; have HK6 := Lib.hid (HST.out _ _ HK5.out hb6); have HB6 := Lib.hid (hbu.mono (K0.size HK5.out)); obtain ⟨a4, n4, c4, rfl, -⟩ := hbu.acc.shape'; obtain ⟨items4, -, hnx4, -⟩ := hbu.rows; obtain ⟨b4, m4, d4, rfl, -⟩ := hnx4.shape'; have HO := Lib.hid (outcomeI Q cK a4 b4 n4 c4 m4 d4 150 w6 (HGL.out _ (K0.base HK6.out)) (w.heap.size + 2) cA cN HB6.out HX0.out); rw [← HC.out] at HO; clear hbu hb6 hnx4 r0 r1 r2 r3 f0 f1 f2 f3 hlS x0 x1 x2 x3 hl4 hl5)
            | (go_at_call 32; refine HO.out.mono ?_; rintro e w7 ⟨va, vn, rfl, hbu, hb7⟩; have HBU := Lib.hid hbu; obtain ⟨a5, n5', c5, rfl, -⟩ := hbu.acc.shape'; obtain ⟨items5, -, hnx5, -⟩ := hbu.rows; obtain ⟨b5, m5, d5, rfl, -⟩ := hnx5.shape'; have HK7 := Lib.hid (HST.out _ _ HK6.out hb7); have r0 := cells_get (K0.res HK7.out) 0; have r1 := cells_get (K0.res HK7.out) 1; have r2 := cells_get (K0.res HK7.out) 2; have r3 := cells_get (K0.res HK7.out) 3; have f0 := cells_free (K0.res HK7.out) 0; have f1 := cells_free (K0.res HK7.out) 1; have f2 := cells_free (K0.res HK7.out) 2; have f3 := cells_free (K0.res HK7.out) 3; have hlS := lt_of_block (K0.res HK7.out); simp at r0 r1 r2 r3; clear hbu hb7 hnx5 HO))
          obtain ⟨g0, g1, g2, g3⟩ := res4 (a := .int .i64 cK) (b := .int .i64 0) (c := .slice a5 n5' c5) (d := .slice b5 m5 d5) (K0.res HK7.out)
          refine bodyPost_ret (v := .tuple #[.agg #[.int .i64 cK, .int .i64 0, .slice a5 n5' c5, .slice b5 m5 d5], .int .i64 cC]) (by simp [results, Tryd.results16, go_sem, g0, g1, g2, g3]) rfl ⟨.slice a5 n5' c5, .slice b5 m5 d5, rfl, ?_, ?_⟩
          · exact (set4_built HBU.out (by omega)).mono (by omega)
          · exact set4_below (K0.base HK7.out) (Nat.le_succ _)
      · have dy : decide (0 ≤ y ∧ y < k) = false := decide_eq_false hy
        rw [dy] at HHY
        have hc : C0 = 2 := by rw [HE2.out, if_neg (fun h => hy h.2.1)]
        subst hc
        obtain ⟨rfl, rfl, rfl, rfl⟩ := HN0.out (by decide)
        clear HN0 HC0 HF0 HE2 HFX HGL hx hy dx dy
        go_wp2_with (first
          | (go_at_call_of 46 x; refine (HHX.out _).mono ?_; rintro e w4 ⟨rfl, hb4⟩; have HK4 := Lib.hid (HST.out _ _ HK3.out hb4); clear hb4 r0 r1 r2 r3 f0 f1 f2 f3 hlS x0 x1 x2 x3; have x0 := cells_get (K0.box HK4.out) 0; have x1 := cells_get (K0.box HK4.out) 1; have x2 := cells_get (K0.box HK4.out) 2; have x3 := cells_get (K0.box HK4.out) 3; have hl4 := lt_of_block (K0.box HK4.out); have r0 := cells_get (K0.res HK4.out) 0; have r1 := cells_get (K0.res HK4.out) 1; have r2 := cells_get (K0.res HK4.out) 2; have r3 := cells_get (K0.res HK4.out) 3; have f0 := cells_free (K0.res HK4.out) 0; have f1 := cells_free (K0.res HK4.out) 1; have f2 := cells_free (K0.res HK4.out) 2; have f3 := cells_free (K0.res HK4.out) 3; have hlS := lt_of_block (K0.res HK4.out); simp at x0 x1 x2 x3 r0 r1 r2 r3)
          | (go_at_call_of 46 y; refine (HHY.out _).mono ?_; rintro e w5 ⟨rfl, hb5⟩; have HK5 := Lib.hid (HST.out _ _ HK4.out hb5); clear hb5 r0 r1 r2 r3 f0 f1 f2 f3 hlS x0 x1 x2 x3; have x0 := cells_get (K0.box HK5.out) 0; have x1 := cells_get (K0.box HK5.out) 1; have x2 := cells_get (K0.box HK5.out) 2; have x3 := cells_get (K0.box HK5.out) 3; have hl5 := lt_of_block (K0.box HK5.out); have r0 := cells_get (K0.res HK5.out) 0; have r1 := cells_get (K0.res HK5.out) 1; have r2 := cells_get (K0.res HK5.out) 2; have r3 := cells_get (K0.res HK5.out) 3; have f0 := cells_free (K0.res HK5.out) 0; have f1 := cells_free (K0.res HK5.out) 1; have f2 := cells_free (K0.res HK5.out) 2; have f3 := cells_free (K0.res HK5.out) 3; have hlS := lt_of_block (K0.res HK5.out); simp at x0 x1 x2 x3 r0 r1 r2 r3))
        obtain ⟨g0, g1, g2, g3⟩ := res4 (a := .int .i64 0) (b := .int .i64 0) (c := .slice none 0 0) (d := .slice none 0 0) (K0.res HK5.out)
        refine bodyPost_ret (v := .tuple #[.agg #[.int .i64 0, .int .i64 0, .slice none 0 0, .slice none 0 0], .int .i64 2]) (by simp [results, Tryd.results16, go_sem, g0, g1, g2, g3]) rfl ⟨.slice none 0 0, .slice none 0 0, rfl, ImplTidied.built_none _ _, ?_⟩
        exact set4_below (K0.base HK5.out) (Nat.le_succ _)
    · have dx : decide (0 ≤ x ∧ x < k) = false := decide_eq_false hx
      rw [dx] at HHX
      have hc : C0 = 2 := by rw [HE2.out, if_neg (fun h => hx h.1)]
      subst hc
      obtain ⟨rfl, rfl, rfl, rfl⟩ := HN0.out (by decide)
      clear HN0 HC0 HF0 HE2 HFX HGL hx dx HHY
      go_wp2_with (go_at_call_of 46 x; refine (HHX.out _).mono ?_; rintro e w4 ⟨rfl, hb4⟩; have HK4 := Lib.hid (HST.out _ _ HK3.out hb4); clear hb4 r0 r1 r2 r3 f0 f1 f2 f3 hlS x0 x1 x2 x3; have x0 := cells_get (K0.box HK4.out) 0; have x1 := cells_get (K0.box HK4.out) 1; have x2 := cells_get (K0.box HK4.out) 2; have x3 := cells_get (K0.box HK4.out) 3; have hl4 := lt_of_block (K0.box HK4.out); have r0 := cells_get (K0.res HK4.out) 0; have r1 := cells_get (K0.res HK4.out) 1; have r2 := cells_get (K0.res HK4.out) 2; have r3 := cells_get (K0.res HK4.out) 3; have f0 := cells_free (K0.res HK4.out) 0; have f1 := cells_free (K0.res HK4.out) 1; have f2 := cells_free (K0.res HK4.out) 2; have f3 := cells_free (K0.res HK4.out) 3; have hlS := lt_of_block (K0.res HK4.out); simp at x0 x1 x2 x3 r0 r1 r2 r3)
      obtain ⟨g0, g1, g2, g3⟩ := res4 (a := .int .i64 0) (b := .int .i64 0) (c := .slice none 0 0) (d := .slice none 0 0) (K0.res HK4.out)
      refine bodyPost_ret (v := .tuple #[.agg #[.int .i64 0, .int .i64 0, .slice none 0 0, .slice none 0 0], .int .i64 2]) (by simp [results, Tryd.results16, go_sem, g0, g1, g2, g3]) rfl ⟨.slice none 0 0, .slice none 0 0, rfl, ImplTidied.built_none _ _, ?_⟩
      exact set4_below (K0.base HK4.out) (Nat.le_succ _)
end Go.Proofs.YtcpcbmappcndcaaDoor.SameFn
