
/- What the program's inSteps, of two steps, hands back.
   Conditions: stated at the theorem. -/
import Derived.Test.YtcpcbmappcndcaaGreatDoorRB24
import Derived.Test.YtcpcbmappcndcaaGreatDoorRB28
import Derived.Test.YtcpcbmappcndcaaGreatDoorRB2
import Derived.Test.YtcpcbmappcndcaaGreatDoorRB9
import Derived.Test.YtcpcbmappcndcaaGreatDoorRB21
import Derived.Test.YtcpcbmappcndcaaGreatDoorRB29
import Derived.Test.YtcpcbmappcndcaaGreatDoorRB27
import Derived.Deep.RegionHeld3
import Derived.Deep.DrawnRows
import Derived.Test.YtcpcbmappcndcaaGreatDoorRB30
namespace Go.Proofs.YtcpcbmappcndcaaGreatDoor.StepsI
set_option linter.unusedVariables false
set_option linter.unusedSimpArgs false
set_option linter.ambiguousOpen false
set_option maxRecDepth 100000
open Go.RowKit Mem Copy Rel Valid Heap Bld Columns TidyRight SpecRight SpecTidyRel ImplRight ImplTidied ErrCode StepI

/-- A box and a result's block, and what is kept of w. -/
structure K2 (w : World) (x : Array Value) (W : World) : Prop where
  base : Below w.heap.size w W
  box : W.heap[w.heap.size]? = some (.cells x 27 (0, 0))
  res : W.heap[w.heap.size + 1]? = some (.cells #[Value.int .i64 0, .int .i64 0, .slice none 0 0, .slice none 0 0] 27 (0, 0))
theorem K2.size {w W : World} {x : Array Value} (h : K2 w x W) : w.heap.size + 2 ≤ W.heap.size := lt_of_block h.res
theorem K2.step {w W W' : World} {x : Array Value} (h : K2 w x W) (hb : Below W.heap.size W W') : K2 w x W' :=
  ⟨h.base.trans (hb.mono h.base.size), by rw [hb.block _ (lt_of_block h.box)]; exact h.box, by rw [hb.block _ (lt_of_block h.res)]; exact h.res⟩
theorem K2.of {w W : World} {x : Array Value} (h : K0 w x W) : K2 w x W := ⟨K0.base h, K0.box h, K0.res h⟩
theorem K2.put {w W : World} {x y z u a b c d : Value} (h : K2 w #[x, y, z, u] W) : K2 w #[a, b, c, d] (set4 W w.heap.size a b c d) := by
  have hne : w.heap.size + 1 ≠ w.heap.size := by omega
  refine ⟨set4_below h.base (Nat.le_refl _), ?_, ?_⟩
  · have p0 := cells_set h.box 0 a
    have p1 := cells_set p0 1 b
    have p2 := cells_set p1 2 c
    have p3 := cells_set p2 3 d
    simp at p3
    exact p3
  · show (set4 W w.heap.size a b c d).heap[_]? = _
    rw [Below.heap_setCell _ _ _ _ hne, Below.heap_setCell _ _ _ _ hne, Below.heap_setCell _ _ _ _ hne, Below.heap_setCell _ _ _ _ hne]
    exact h.res

set_option maxHeartbeats 16000000 in
theorem inSteps2 (K1 : Int) (A1 : List Bool) (N1 : List (List Int)) (Q1 : Bool) (K : Int) (A : List Bool) (N : List (List Int)) (Q : Bool) (k st : Int) (aa ab : Option Addr) (na ca nb cb : Nat) (w : World) (c1 c2 : FuncId) (p1 p2 : Array Value)
    (hcf1 : ∀ (args : Array Value) (W : World), (callFunc c1 args).run Tryz.prog W = .ok (.enter c1 args) W) (hcf2 : ∀ (args : Array Value) (W : World), (callFunc c2 args).run Tryz.prog W = .ok (.enter c2 args) W)
    (g : Nat) (hg1 : w.cell? ⟨g, 0, none⟩ = some (.func (.func c1) #[] p1)) (hg2 : w.cell? ⟨g, 1, none⟩ = some (.func (.func c2) #[] p2)) (lg : g < w.heap.size)
    (h1 : ∀ W, Below w.heap.size w W → Calls Tryz.prog c1 (#[.agg #[.int .i64 k, .int .i64 st, .slice aa na ca, .slice ab nb cb]] ++ p1) W fun e w' => ∃ va vn, e = .returned (.tuple #[.agg #[.int .i64 K1, .int .i64 0, va, vn], errV Q1 150]) ∧ Built w' W.heap.size va vn A1 N1 ∧ Below W.heap.size W w')
    (h2 : Q1 = true → ∀ W va vn, Below w.heap.size w W → RelAt W W.heap.size (.agg #[.int .i64 K1, .int .i64 0, va, vn]) ⟨K1, 0, A1, N1⟩ → Calls Tryz.prog c2 (#[.agg #[.int .i64 K1, .int .i64 0, va, vn]] ++ p2) W fun e w' => ∃ va vn, ∃ n : Int, e = .returned (.tuple #[.agg #[.int .i64 K, .int .i64 0, va, vn], errV Q n]) ∧ Built w' W.heap.size va vn A N ∧ Below W.heap.size W w')
    (hq1 : Q1 = false → Q = false) (hq : Q = false → K = 0 ∧ A = [] ∧ N = []) :
    Calls Tryz.prog 46 #[.agg #[.int .i64 k, .int .i64 st, .slice aa na ca, .slice ab nb cb], .slice (some ⟨g, 0, none⟩) 2 2] w fun e w' => ∃ va vn, ∃ n : Int, e = .returned (.tuple #[.agg #[.int .i64 K, .int .i64 0, va, vn], errV Q n]) ∧ Built w' w.heap.size va vn A N ∧ Below w.heap.size w w' := by
  have HK0 := Lib.hid (show K0 w #[.int .i64 k, .int .i64 st, .slice aa na ca, .slice ab nb cb] ((w.alloc (.cells #[.int .i64 k, .int .i64 st, .slice aa na ca, .slice ab nb cb] 27)).alloc (.cells #[Value.int .i64 0, .int .i64 0, .slice none 0 0, .slice none 0 0] 27)) from Below.refl _ _)
  have HC1 := Lib.hid (h1 _ (K0.base HK0.out))
  have HC2 := Lib.hid h2
  have HQ1 := Lib.hid hq1
  have HQ := Lib.hid hq
  have HG := Lib.hid (fun W (hb : Below w.heap.size w W) => (show W.cell? ⟨g, 0, none⟩ = some (.func (.func c1) #[] p1) ∧ W.cell? ⟨g, 1, none⟩ = some (.func (.func c2) #[] p2) ∧ g < W.heap.size from
    ⟨(hb.cell (p := ⟨g, 0, none⟩) lg).trans hg1, (hb.cell (p := ⟨g, 1, none⟩) lg).trans hg2, Nat.lt_of_lt_of_le lg hb.size⟩))
  have HS2 := Lib.hid (show ((w.alloc (.cells #[.int .i64 k, .int .i64 st, .slice aa na ca, .slice ab nb cb] 27)).alloc (.cells #[Value.int .i64 0, .int .i64 0, .slice none 0 0, .slice none 0 0] 27)).heap.size = w.heap.size + 2 by rw [size_alloc', size_alloc'])
  have q1 : g < w.heap.size + 1 := by omega
  clear h1 h2 hq1 hq
  go_enter Tryz.func46, Tryz.ntmps46
  go_wp2_with fail
  refine wp_loop_rounds 3 ?_
  rw [rounds_succ]
  go_wp2_with fail
  refine HC1.out.mono ?_
  rintro e w3 ⟨va, vn, rfl, hbu, hb3⟩
  rw [HS2.out] at hbu hb3
  have HK3 := Lib.hid (K2.of (show K0 w #[.int .i64 k, .int .i64 st, .slice aa na ca, .slice ab nb cb] w3 from hb3))
  have HBU := Lib.hid hbu
  obtain ⟨a8, n8, c8, rfl, -⟩ := hbu.acc.shape'
  obtain ⟨items8, -, hnx8, -⟩ := hbu.rows
  obtain ⟨b8, m8, d8, rfl, -⟩ := hnx8.shape'
  have x0 := cells_get (HK3.out.box) 0
  have x1 := cells_get (HK3.out.box) 1
  have x2 := cells_get (HK3.out.box) 2
  have x3 := cells_get (HK3.out.box) 3
  have y0 := cells_free (HK3.out.box) 0
  have y1 := cells_free (HK3.out.box) 1
  have y2 := cells_free (HK3.out.box) 2
  have y3 := cells_free (HK3.out.box) 3
  have hlB := lt_of_block (HK3.out.box)
  have r0 := cells_get (HK3.out.res) 0
  have r1 := cells_get (HK3.out.res) 1
  have r2 := cells_get (HK3.out.res) 2
  have r3 := cells_get (HK3.out.res) 3
  have f0 := cells_free (HK3.out.res) 0
  have f1 := cells_free (HK3.out.res) 1
  have f2 := cells_free (HK3.out.res) 2
  have f3 := cells_free (HK3.out.res) 3
  have hlS := lt_of_block (HK3.out.res)
  simp at x0 x1 x2 x3 r0 r1 r2 r3
  clear hbu hnx8 hb3 HC1 HS2 HK0 q1 hg1 hg2 lg
  go_upto_region 6 with fail
  obtain ⟨W4, hW4⟩ : ∃ W4, W4 = ((((w3.setCell ⟨w.heap.size, 0, none⟩ (.int .i64 K1)).setCell ⟨w.heap.size, 1, none⟩ (.int .i64 0)).setCell ⟨w.heap.size, 2, none⟩ (.slice a8 n8 c8)).setCell ⟨w.heap.size, 3, none⟩ (.slice b8 m8 d8)) := ⟨_, rfl⟩
  have HK4 := Lib.hid (show K2 w #[.int .i64 K1, .int .i64 0, .slice a8 n8 c8, .slice b8 m8 d8] W4 from by rw [hW4]; exact K2.put HK3.out)
  have HU4 := Lib.hid (show Built W4 (w.heap.size + 2) (.slice a8 n8 c8) (.slice b8 m8 d8) A1 N1 from by rw [hW4]; exact set4_built HBU.out (by omega))
  rw [← hW4]
  clear hW4 x0 x1 x2 x3 y0 y1 y2 y3 hlB r0 r1 r2 r3 f0 f1 f2 f3 hlS HBU HK3
  have x0 := cells_get (HK4.out.box) 0
  have x1 := cells_get (HK4.out.box) 1
  have x2 := cells_get (HK4.out.box) 2
  have x3 := cells_get (HK4.out.box) 3
  have y0 := cells_free (HK4.out.box) 0
  have y1 := cells_free (HK4.out.box) 1
  have y2 := cells_free (HK4.out.box) 2
  have y3 := cells_free (HK4.out.box) 3
  have hlB := lt_of_block (HK4.out.box)
  have r0 := cells_get (HK4.out.res) 0
  have r1 := cells_get (HK4.out.res) 1
  have r2 := cells_get (HK4.out.res) 2
  have r3 := cells_get (HK4.out.res) 3
  have f0 := cells_free (HK4.out.res) 0
  have f1 := cells_free (HK4.out.res) 1
  have f2 := cells_free (HK4.out.res) 2
  have f3 := cells_free (HK4.out.res) 3
  have hlS := lt_of_block (HK4.out.res)
  simp at x0 x1 x2 x3 r0 r1 r2 r3
  cases Q1 with
  | false =>
    obtain rfl := HQ1.out rfl
    obtain ⟨rfl, rfl, rfl⟩ := HQ.out rfl
    have eQ : errV false 150 = .iface 113 (.int .i64 150) := rfl
    rw [eQ]
    clear HC2 HQ HQ1
    go_wp2_with fail
    obtain ⟨g0, g1, g2, g3⟩ := res4 (a := .int .i64 0) (b := .int .i64 0) (c := .slice none 0 0) (d := .slice none 0 0) HK4.out.res
    refine bodyPost_ret (v := .tuple #[.agg #[.int .i64 0, .int .i64 0, .slice none 0 0, .slice none 0 0], .iface 113 (.int .i64 150)]) (by simp [results, Tryz.results46, go_sem, g0, g1, g2, g3]) rfl ⟨.slice none 0 0, .slice none 0 0, 150, rfl, ImplTidied.built_none _ _, ?_⟩
    exact set4_below HK4.out.base (by omega)
  | true =>
    have eQ : errV true 150 = .nilIface := rfl
    rw [eQ]
    have HC3 := Lib.hid (HC2.out rfl W4 (.slice a8 n8 c8) (.slice b8 m8 d8) HK4.out.base (HU4.out.reads W4.heap.size (Nat.le_refl _) K1 0))
    obtain ⟨z1, z2, lz⟩ := HG.out W4 HK4.out.base
    clear HC2 HU4
    go_wp2_with fail
    rw [rounds_succ]
    go_wp2_with fail
    refine HC3.out.mono ?_
    rintro e w5 ⟨va, vn, n5, rfl, hbu, hb5⟩
    have HK5 := Lib.hid (K2.step HK4.out hb5)
    have HB5 := Lib.hid (show Built w5 (w.heap.size + 2) va vn A N from hbu.mono HK4.out.size)
    obtain ⟨a9, n9, c9, rfl, -⟩ := hbu.acc.shape'
    obtain ⟨items9, -, hnx9, -⟩ := hbu.rows
    obtain ⟨b9, m9, d9, rfl, -⟩ := hnx9.shape'
    clear hbu hnx9 hb5 HC3 z1 z2 lz x0 x1 x2 x3 y0 y1 y2 y3 hlB r0 r1 r2 r3 f0 f1 f2 f3 hlS
    have x0 := cells_get (HK5.out.box) 0
    have x1 := cells_get (HK5.out.box) 1
    have x2 := cells_get (HK5.out.box) 2
    have x3 := cells_get (HK5.out.box) 3
    have y0 := cells_free (HK5.out.box) 0
    have y1 := cells_free (HK5.out.box) 1
    have y2 := cells_free (HK5.out.box) 2
    have y3 := cells_free (HK5.out.box) 3
    have hlB := lt_of_block (HK5.out.box)
    have r0 := cells_get (HK5.out.res) 0
    have r1 := cells_get (HK5.out.res) 1
    have r2 := cells_get (HK5.out.res) 2
    have r3 := cells_get (HK5.out.res) 3
    have f0 := cells_free (HK5.out.res) 0
    have f1 := cells_free (HK5.out.res) 1
    have f2 := cells_free (HK5.out.res) 2
    have f3 := cells_free (HK5.out.res) 3
    have hlS := lt_of_block (HK5.out.res)
    simp at x0 x1 x2 x3 r0 r1 r2 r3
    go_upto_region 6 with fail
    obtain ⟨W6, hW6⟩ : ∃ W6, W6 = ((((w5.setCell ⟨w.heap.size, 0, none⟩ (.int .i64 K)).setCell ⟨w.heap.size, 1, none⟩ (.int .i64 0)).setCell ⟨w.heap.size, 2, none⟩ (.slice a9 n9 c9)).setCell ⟨w.heap.size, 3, none⟩ (.slice b9 m9 d9)) := ⟨_, rfl⟩
    have HK6 := Lib.hid (show K2 w #[.int .i64 K, .int .i64 0, .slice a9 n9 c9, .slice b9 m9 d9] W6 from by rw [hW6]; exact K2.put HK5.out)
    have HU6 := Lib.hid (show Built W6 (w.heap.size + 2) (.slice a9 n9 c9) (.slice b9 m9 d9) A N from by rw [hW6]; exact set4_built HB5.out (by omega))
    rw [← hW6]
    clear hW6 x0 x1 x2 x3 y0 y1 y2 y3 hlB r0 r1 r2 r3 f0 f1 f2 f3 hlS HB5 HK5 HK4
    have x0 := cells_get (HK6.out.box) 0
    have x1 := cells_get (HK6.out.box) 1
    have x2 := cells_get (HK6.out.box) 2
    have x3 := cells_get (HK6.out.box) 3
    have y0 := cells_free (HK6.out.box) 0
    have y1 := cells_free (HK6.out.box) 1
    have y2 := cells_free (HK6.out.box) 2
    have y3 := cells_free (HK6.out.box) 3
    have hlB := lt_of_block (HK6.out.box)
    have r0 := cells_get (HK6.out.res) 0
    have r1 := cells_get (HK6.out.res) 1
    have r2 := cells_get (HK6.out.res) 2
    have r3 := cells_get (HK6.out.res) 3
    have f0 := cells_free (HK6.out.res) 0
    have f1 := cells_free (HK6.out.res) 1
    have f2 := cells_free (HK6.out.res) 2
    have f3 := cells_free (HK6.out.res) 3
    have hlS := lt_of_block (HK6.out.res)
    simp at x0 x1 x2 x3 r0 r1 r2 r3
    cases Q with
    | false =>
      obtain ⟨rfl, rfl, rfl⟩ := HQ.out rfl
      have eQ2 : errV false n5 = .iface 113 (.int .i64 n5) := rfl
      rw [eQ2]
      go_wp2_with fail
      obtain ⟨g0, g1, g2, g3⟩ := res4 (a := .int .i64 0) (b := .int .i64 0) (c := .slice none 0 0) (d := .slice none 0 0) HK6.out.res
      refine bodyPost_ret (v := .tuple #[.agg #[.int .i64 0, .int .i64 0, .slice none 0 0, .slice none 0 0], .iface 113 (.int .i64 n5)]) (by simp [results, Tryz.results46, go_sem, g0, g1, g2, g3]) rfl ⟨.slice none 0 0, .slice none 0 0, ⟨n5, rfl⟩, ImplTidied.built_none _ _, ?_⟩
      exact set4_below HK6.out.base (by omega)
    | true =>
      have eQ2 : errV true n5 = .nilIface := rfl
      rw [eQ2]
      go_wp2_with fail
      rw [rounds_succ]
      go_wp2_with fail
      obtain ⟨g0, g1, g2, g3⟩ := res4 (a := .int .i64 K) (b := .int .i64 0) (c := .slice a9 n9 c9) (d := .slice b9 m9 d9) HK6.out.res
      refine bodyPost_ret (v := .tuple #[.agg #[.int .i64 K, .int .i64 0, .slice a9 n9 c9, .slice b9 m9 d9], .nilIface]) (by simp [results, Tryz.results46, go_sem, g0, g1, g2, g3]) rfl ⟨.slice a9 n9 c9, .slice b9 m9 d9, n5, rfl, ?_, ?_⟩
      · exact (set4_built HU6.out (by omega)).mono (by omega)
      · exact set4_below HK6.out.base (by omega)
end Go.Proofs.YtcpcbmappcndcaaGreatDoor.StepsI
/- Automata of pairs, the two sides changed; a tidy automaton as a relation that has the form.
   Conditions: stated at each theorem. -/
namespace Go.Proofs.YtcpcbmappcndcaaGreatDoor.PairSwap
set_option linter.unusedVariables false
set_option linter.unusedSimpArgs false
open Go.RowKit Mem Rel Columns Valid TidyMath TidyAuto TidyRight SpecFiner SpecRight Sim PairMath ToL ImplTidied

theorem pair_nx (t : Bool → Bool → Bool) (l m : L) {p q c : Nat} (hp : p < l.acc.length) (hq : q < m.acc.length) (hc : c < wide l.k) :
    ((pairL t l m).nx.getD (p * m.acc.length + q) []).getD c 0 = (l.nx.getD p []).getD c 0 * m.acc.length + (m.nx.getD q []).getD c 0 := by
  have hx := pair_lt hp hq
  have e : ((pairL t l m).nx.getD (p * m.acc.length + q) []).getD c 0 = (l.nx.getD ((p * m.acc.length + q) / m.acc.length) []).getD c 0 * m.acc.length + (m.nx.getD ((p * m.acc.length + q) % m.acc.length) []).getD c 0 := by
    simp [pairL, List.getD, hx, hc]
  rw [e, pair_div hq, pair_mod hq]
theorem pair_acc (t : Bool → Bool → Bool) (l m : L) {p q : Nat} (hp : p < l.acc.length) (hq : q < m.acc.length) :
    (pairL t l m).acc.getD (p * m.acc.length + q) false = t (l.acc.getD p false) (m.acc.getD q false) := by
  have hx := pair_lt hp hq
  have e : (pairL t l m).acc.getD (p * m.acc.length + q) false = t (l.acc.getD ((p * m.acc.length + q) / m.acc.length) false) (m.acc.getD ((p * m.acc.length + q) % m.acc.length) false) := by
    simp [pairL, List.getD, hx]
  rw [e, pair_div hq, pair_mod hq]
theorem swap_tidy {t : Bool → Bool → Bool} (ht : ∀ a b, t a b = t b a) {l m : L} (hl : l.Ok) (hm : m.Ok) (hk : l.k = m.k) : tidyAcc (pairL t l m) = tidyAcc (pairL t m l) ∧ tidyNext (pairL t l m) = tidyNext (pairL t m l) := by
  refine Pla.tidy (T := fun x y _ => ∃ p q, p < l.acc.length ∧ q < m.acc.length ∧ x = p * m.acc.length + q ∧ y = q * l.acc.length + p) ⟨hk, fun x y e hT => ?_, fun x y e hT c hc hf => ?_⟩ (pairL_ok t hl hm hk) (pairL_ok t hm hl hk.symm) ⟨_, _, hl.st, hm.st, rfl, rfl⟩
  · obtain ⟨p, q, hp, hq, rfl, rfl⟩ := hT
    rw [pair_acc t l m hp hq, pair_acc t m l hq hp, ht]
  · obtain ⟨p, q, hp, hq, rfl, rfl⟩ := hT
    have hc' : c < wide l.k := hc
    have hc2 : c < wide m.k := by rw [← hk]; exact hc'
    rw [pair_nx t l m hp hq hc', pair_nx t m l hq hp hc2]
    exact ⟨_, _, hl.lt p hp c hc', hm.lt q hq c hc2, rfl, rfl⟩
theorem toNat_ofN (x : List Nat) : (ofN x).map Int.toNat = x := by
  unfold ofN
  rw [List.map_map]
  conv => rhs; rw [← List.map_id x]
  exact List.map_congr_left fun y _ => rfl
theorem toL_relOf (l : L) : toL (relOf l) = l := by
  have e : (l.nx.map ofN).map (fun x => x.map Int.toNat) = l.nx := by
    rw [List.map_map]
    conv => rhs; rw [← List.map_id l.nx]
    exact List.map_congr_left fun x _ => toNat_ofN x
  cases l with
  | mk k st acc nx =>
    show L.mk _ _ _ _ = _
    have e' : (nx.map ofN).map (fun x => x.map Int.toNat) = nx := e
    rw [show (relOf ⟨k, st, acc, nx⟩).next.map (fun x => x.map Int.toNat) = nx from e']
    rfl
theorem ok_rel {l : L} (hl : l.Ok) (hn : l.acc.length ≤ 150) : okB (relOf l) = true := by
  have hst := hl.st
  have hw := wide_eq hl.k0 hl.k3
  have h0 := hl.k0
  have h3 := hl.k3
  unfold okB formB headB
  rw [Bool.and_eq_true, Bool.and_eq_true]
  refine ⟨decide_eq_true (by show (l.acc.length : Int) ≤ 150; omega), ?_, ?_⟩
  · rw [Bool.and_eq_true, Bool.and_eq_true, Bool.and_eq_true]
    refine ⟨⟨⟨decide_eq_true (by show (1 : Int) ≤ (l.k : Nat) ∧ ((l.k : Nat) : Int) ≤ 3; omega), decide_eq_true ?_⟩, decide_eq_true (by show (0 : Int) ≤ (l.start : Nat) ∧ ((l.start : Nat) : Int) ≤ (l.acc.length : Int) - 1; omega)⟩, decide_eq_true ?_⟩
    · show (1 : Int) ≤ (l.acc.length : Int)
      omega
    · show ((l.nx.map ofN).length : Int) = (l.acc.length : Int)
      rw [List.length_map, hl.len]
  · rw [List.all_eq_true]
    intro x hx
    obtain ⟨row, hrow, rfl⟩ := List.mem_map.1 hx
    obtain ⟨s, hs, rfl⟩ := List.getElem_of_mem hrow
    have hs' : s < l.acc.length := by rw [← hl.len]; exact hs
    have hg : l.nx.getD s [] = l.nx[s] := by simp [List.getD, hs]
    have hr := hl.row s hs'
    rw [hg] at hr
    unfold rowOk
    rw [Bool.and_eq_true]
    refine ⟨decide_eq_true ?_, ?_⟩
    · show ((ofN l.nx[s]).length : Int) = widthOf ((l.k : Nat) : Int)
      rw [hw, ofN_length, hr]
    · rw [List.all_eq_true]
      intro y hy
      obtain ⟨z, hz, rfl⟩ := List.mem_map.1 hy
      obtain ⟨c, hc, rfl⟩ := List.getElem_of_mem hz
      have hlt := hl.lt s hs' c (by rw [← hr]; exact hc)
      rw [hg] at hlt
      have hlt2 : (l.nx[s])[c] < l.acc.length := by simpa [List.getD, hc] using hlt
      exact decide_eq_true (by show (0 : Int) ≤ (((l.nx[s])[c] : Nat) : Int) ∧ (((l.nx[s])[c] : Nat) : Int) ≤ (l.acc.length : Int) - 1; omega)
end Go.Proofs.YtcpcbmappcndcaaGreatDoor.PairSwap
/- The steps of RestrictFunction in the program: the closures of tapeAdded and joinedWith, and the code of a graph and a set.
   Conditions: stated at each theorem. -/
namespace Go.Proofs.YtcpcbmappcndcaaGreatDoor.RstI
set_option linter.unusedVariables false
set_option linter.unusedSimpArgs false
set_option linter.ambiguousOpen false
set_option maxRecDepth 100000
open Go.RowKit Mem Copy Rel Valid Heap Bld Columns TidyMath TidyAuto TidyRight SpecFiner SpecRight ToL SpecTidyRel ImplRight ImplTidied ErrCode OppImpl PairMath JoinI TwoImpl StepI StepsI TapeFn AddFn PairSwap

abbrev and2 : Bool → Bool → Bool := fun a b => a && b
def rstC (f d : R) : Int := if okB f = true ∧ okB d = true then (if f.tapes = 2 ∧ d.tapes = 1 then 0 else 2) else 1
noncomputable abbrev rstL (d : R) : L := tidL (addL d 1)
noncomputable abbrev rstB (d : R) : Bool := fewB (addL d 1) 150
noncomputable def rstK (f d : R) : Int := if rstC f d = 0 then (if rstB d = true then twoK and2 f (relOf (rstL d)) else 0) else 0
noncomputable def rstA (f d : R) : List Bool := if rstC f d = 0 then (if rstB d = true then twoA and2 f (relOf (rstL d)) else []) else []
noncomputable def rstN (f d : R) : List (List Int) := if rstC f d = 0 then (if rstB d = true then twoN and2 f (relOf (rstL d)) else []) else []
noncomputable def rstV (f d : R) : Int := if rstC f d = 0 then (if rstB d = true then twoC and2 f (relOf (rstL d)) else 3) else rstC f d
theorem rst_no {f d : R} (h : rstC f d ≠ 0) : rstV f d = rstC f d ∧ rstK f d = 0 ∧ rstA f d = [] ∧ rstN f d = [] := ⟨if_neg h, if_neg h, if_neg h, if_neg h⟩
theorem rst_many {f d : R} (h : rstC f d = 0) (hb : rstB d = false) : rstV f d = 3 ∧ rstK f d = 0 ∧ rstA f d = [] ∧ rstN f d = [] := by
  unfold rstV rstK rstA rstN
  rw [if_pos h, if_pos h, if_pos h, if_pos h, hb]
  exact ⟨rfl, rfl, rfl, rfl⟩
theorem rst_yes {f d : R} (h : rstC f d = 0) (hb : rstB d = true) : rstV f d = twoC and2 f (relOf (rstL d)) ∧ rstK f d = twoK and2 f (relOf (rstL d)) ∧ rstA f d = twoA and2 f (relOf (rstL d)) ∧ rstN f d = twoN and2 f (relOf (rstL d)) := by
  unfold rstV rstK rstA rstN
  rw [if_pos h, if_pos h, if_pos h, if_pos h, if_pos hb, if_pos hb, if_pos hb, if_pos hb]
  exact ⟨rfl, rfl, rfl, rfl⟩
theorem rst_ok {f d : R} (h : rstC f d = 0) : okB f = true ∧ okB d = true ∧ f.tapes = 2 ∧ d.tapes = 1 := by
  unfold rstC at h
  by_cases hok : okB f = true ∧ okB d = true
  · rw [if_pos hok] at h
    by_cases h2 : f.tapes = 2 ∧ d.tapes = 1
    · exact ⟨hok.1, hok.2, h2.1, h2.2⟩
    · rw [if_neg h2] at h; omega
  · rw [if_neg hok] at h; omega
theorem rst_add {f d : R} (h : rstC f d = 0) : (addL d 1).Ok ∧ (addL d 1).k = 2 ∧ addC d 1 = 0 ∧ (addL d 1).acc.length ≤ 150 := by
  obtain ⟨h1, h2, h3, h4⟩ := rst_ok h
  have hx : 0 ≤ (1 : Int) ∧ 1 ≤ d.tapes ∧ d.tapes ≠ 3 := by omega
  refine ⟨add_ok h2 hx, ?_, ?_, (okL h2).2⟩
  · show d.tapes.toNat + 1 = 2
    rw [h4]; rfl
  · unfold addC; rw [if_pos h2, if_pos hx]
theorem rst_alike {f d : R} (h : rstC f d = 0) (hb : rstB d = true) : alikeC f (relOf (rstL d)) = 0 ∧ toL (relOf (rstL d)) = rstL d ∧ okB (relOf (rstL d)) = true := by
  obtain ⟨h1, h2, h3, h4⟩ := rst_ok h
  obtain ⟨a1, a2, a3, a4⟩ := rst_add h
  have hok : okB (relOf (rstL d)) = true := ok_rel (tidL_ok a1) (of_decide_eq_true hb)
  refine ⟨?_, toL_relOf _, hok⟩
  unfold alikeC
  rw [if_pos h1, if_pos hok, if_pos (by show f.tapes = (((addL d 1).k : Nat) : Int); rw [a2, h3]; rfl)]
theorem join_swap {l m : L} (hl : l.Ok) (hm : m.Ok) (hk : l.k = m.k) : joinB and2 l m = joinB and2 m l ∧ joinK and2 l m = joinK and2 m l ∧ joinA and2 l m = joinA and2 m l ∧ joinN and2 l m = joinN and2 m l := by
  obtain ⟨e1, e2⟩ := swap_tidy (t := and2) (fun a b => Bool.and_comm a b) (tidL_ok hl) (tidL_ok hm) hk
  have hb : joinB and2 l m = joinB and2 m l := by
    unfold joinB fewB
    rw [Nat.mul_comm]
    show (_ && decide ((tidyAcc (joinL and2 l m)).length ≤ 150)) = (_ && decide ((tidyAcc (joinL and2 m l)).length ≤ 150))
    rw [show tidyAcc (joinL and2 l m) = tidyAcc (joinL and2 m l) from e1]
  refine ⟨hb, ?_, ?_, ?_⟩
  · unfold joinK; rw [hb, hk]
  · unfold joinA; rw [hb, show tidyAcc (joinL and2 l m) = tidyAcc (joinL and2 m l) from e1]
  · unfold joinN; rw [hb, show tidyNext (joinL and2 l m) = tidyNext (joinL and2 m l) from e2]

theorem joinWithI (fid : FuncId) (k st : Int) (aa ab : Option Addr) (na ca nb cb : Nat) (w : World) :
    Calls Tryz.prog 52 #[.agg #[.int .i64 k, .int .i64 st, .slice aa na ca, .slice ab nb cb], .func (.func fid) #[] #[]] w fun e w' => e = .returned (.func (.func 85) #[] #[.pointer (some ⟨w.heap.size, 0, none⟩), .pointer (some ⟨w.heap.size + 1, 0, none⟩)]) ∧ w' = (w.alloc (.cells #[.int .i64 k, .int .i64 st, .slice aa na ca, .slice ab nb cb] 27)).alloc (.cells #[.func (.func fid) #[] #[]] 88) := by
  have hmf : ∀ (fn : Fn) (first cap : Array Value) (w : World), (Instr.makeFunc fn first cap).run Tryz.prog w = .ok (.func fn first cap) w := fun _ _ _ _ => rfl
  go_enter Tryz.func52, Tryz.ntmps52
  go_wp2
  go_ret
  exact ⟨rfl, rfl⟩

set_option maxHeartbeats 8000000 in
theorem joinStepI (l m : L) (hl : l.Ok) (hm : m.Ok) (hk' : l.k = m.k) (hnl : l.acc.length ≤ 1000) (hnm : m.acc.length ≤ 1000) (v u0 u1 u2 u3 : Value) (w : World) (h : RelAt w w.heap.size v (relOf l)) (h' : RelAt w w.heap.size (.agg #[u0, u1, u2, u3]) (relOf m)) (b1 b2 : Nat)
    (hb1 : w.heap[b1]? = some (.cells #[u0, u1, u2, u3] 27 (0, 0))) (hb2 : w.cell? ⟨b2, 0, none⟩ = some (.func (.func 53) #[] #[])) (l2 : b2 < w.heap.size) :
    Calls Tryz.prog 85 #[v, .pointer (some ⟨b1, 0, none⟩), .pointer (some ⟨b2, 0, none⟩)] w fun e w' => ∃ va vn, ∃ n : Int, e = .returned (.tuple #[.agg #[.int .i64 (joinK and2 l m), .int .i64 0, va, vn], errV (joinB and2 l m) n]) ∧ Built w' w.heap.size va vn (joinA and2 l m) (joinN and2 l m) ∧ Below w.heap.size w w' := by
  have HJ := Lib.hid (fun W (hb : Below w.heap.size w W) => joinedI and2 l m hl hm hk' hnl hnm v (.agg #[u0, u1, u2, u3]) 53 (fun _ _ => rfl) bothI W w.heap.size (h.below hb (Nat.le_refl _)) (h'.below hb (Nat.le_refl _)) hb.size)
  have HE0 := Lib.hid (fun hq => join_no (t := and2) (l := l) (m := m) hq)
  obtain ⟨K, hK⟩ : ∃ x, x = joinK and2 l m := ⟨_, rfl⟩
  obtain ⟨A, hA⟩ : ∃ x, x = joinA and2 l m := ⟨_, rfl⟩
  obtain ⟨N, hN⟩ : ∃ x, x = joinN and2 l m := ⟨_, rfl⟩
  obtain ⟨Q, hQ⟩ : ∃ x, x = joinB and2 l m := ⟨_, rfl⟩
  rw [← hK, ← hA, ← hN, ← hQ] at HJ ⊢
  have HB1 := Lib.hid hb1
  have HB2 := Lib.hid hb2
  clear hK hA hN hQ hl hm hk' hnl hnm HE0
  obtain ⟨va, vn, rfl, ha, hx⟩ := h
  obtain ⟨aa, ba, oa, ca, rfl, -, -, -⟩ := ha
  obtain ⟨-, ⟨ab, bb, ob, cb, rfl, -, -, -⟩, -⟩ := hx
  obtain ⟨k, hk⟩ : ∃ k : Int, k = (relOf l).tapes := ⟨_, rfl⟩
  obtain ⟨st, hs⟩ : ∃ st : Int, st = (relOf l).start := ⟨_, rfl⟩
  obtain ⟨na, hna⟩ : ∃ na, na = (relOf l).accept.length := ⟨_, rfl⟩
  obtain ⟨nb, hnb⟩ : ∃ nb, nb = (relOf l).next.length := ⟨_, rfl⟩
  obtain ⟨ca2, cb2, e2, ha2, hx2⟩ := h'
  obtain ⟨x4, x5, x6, x7, rfl, -, -, -⟩ := ha2
  obtain ⟨-, ⟨x8, x9, x10, x11, rfl, -, -, -⟩, -⟩ := hx2
  have e3 := e2
  injection e3 with e3
  replace e3 := congrArg Array.toList e3
  simp only [List.cons.injEq, and_true] at e3
  obtain ⟨rfl, rfl, rfl, rfl⟩ := e3
  rw [← hk, ← hs, ← hna, ← hnb] at HJ
  rw [← hk, ← hs, ← hna, ← hnb]
  have HK0 := Lib.hid (show K0 w #[.int .i64 k, .int .i64 st, .slice aa na ca, .slice ab nb cb] ((w.alloc (.cells #[.int .i64 k, .int .i64 st, .slice aa na ca, .slice ab nb cb] 27)).alloc (.cells #[Value.int .i64 0, .int .i64 0, .slice none 0 0, .slice none 0 0] 27)) from Below.refl _ _)
  obtain ⟨W1, hW1⟩ : ∃ W, W = ((w.alloc (.cells #[.int .i64 k, .int .i64 st, .slice aa na ca, .slice ab nb cb] 27)).alloc (.cells #[Value.int .i64 0, .int .i64 0, .slice none 0 0, .slice none 0 0] 27)) := ⟨_, rfl⟩
  rw [← hW1] at HK0
  have HJ1 := Lib.hid (HJ.out W1 (K0.base HK0.out))
  have hl1 := lt_of_block HB1.out
  have hx1 : W1.heap[b1]? = _ := ((K0.base HK0.out).block b1 hl1).trans HB1.out
  have z0 := cells_get hx1 0
  have z1 := cells_get hx1 1
  have z2 := cells_get hx1 2
  have z3 := cells_get hx1 3
  have lz := lt_of_block hx1
  have z4 : W1.cell? ⟨b2, 0, none⟩ = some (.func (.func 53) #[] #[]) := ((K0.base HK0.out).cell (p := ⟨b2, 0, none⟩) l2).trans HB2.out
  have x0 := cells_get (K0.box HK0.out) 0
  have x1 := cells_get (K0.box HK0.out) 1
  have x2 := cells_get (K0.box HK0.out) 2
  have x3 := cells_get (K0.box HK0.out) 3
  have lx := lt_of_block (K0.box HK0.out)
  simp at z0 z1 z2 z3 x0 x1 x2 x3
  have HW1 := Lib.hid hW1
  clear hk hs hna hnb HJ hW1 hb1 hb2 hx1 e2
  go_enter Tryz.func85, Tryz.ntmps85
  go_upto_region 1 with fail
  rw [← HW1.out]
  go_wp2_with fail
  refine HJ1.out.mono ?_
  rintro e w5 ⟨va, vn, n5, rfl, hbu, hb5⟩
  have HK5 := Lib.hid (show K0 w #[.int .i64 k, .int .i64 st, .slice aa na ca, .slice ab nb cb] w5 from Below.trans HK0.out (hb5.mono (K0.size HK0.out)))
  have HB5 := Lib.hid (hbu.mono (K0.size HK0.out))
  obtain ⟨a9, n9, c9, rfl, -⟩ := hbu.acc.shape'
  obtain ⟨items9, -, hnx9, -⟩ := hbu.rows
  obtain ⟨b9, m9, d9, rfl, -⟩ := hnx9.shape'
  clear hbu hb5 hnx9 z0 z1 z2 z3 z4 lz x0 x1 x2 x3 lx
  have r0 := cells_get (K0.res HK5.out) 0
  have r1 := cells_get (K0.res HK5.out) 1
  have r2 := cells_get (K0.res HK5.out) 2
  have r3 := cells_get (K0.res HK5.out) 3
  have f0 := cells_free (K0.res HK5.out) 0
  have f1 := cells_free (K0.res HK5.out) 1
  have f2 := cells_free (K0.res HK5.out) 2
  have f3 := cells_free (K0.res HK5.out) 3
  have hlS := lt_of_block (K0.res HK5.out)
  simp at r0 r1 r2 r3
  go_wp2_with fail
  obtain ⟨g0, g1, g2, g3⟩ := res4 (a := .int .i64 K) (b := .int .i64 0) (c := .slice a9 n9 c9) (d := .slice b9 m9 d9) (K0.res HK5.out)
  refine bodyPost_ret (v := .tuple #[.agg #[.int .i64 K, .int .i64 0, .slice a9 n9 c9, .slice b9 m9 d9], errV Q n5]) (by simp [results, Tryz.results85, go_sem, g0, g1, g2, g3]) rfl ⟨.slice a9 n9 c9, .slice b9 m9 d9, n5, rfl, ?_, ?_⟩
  · exact (set4_built HB5.out (by omega)).mono (by omega)
  · exact set4_below (K0.base HK5.out) (Nat.le_succ _)
set_option maxHeartbeats 8000000 in
theorem graphI (k st : Int) (aa ab : Option Addr) (na ca nb cb : Nat) (k2 s2 : Int) (a2 b2 : Option Addr) (n2 c2 m2 d2 : Nat) (f d : R) (w : World) (hf : RelAt w w.heap.size (.agg #[.int .i64 k, .int .i64 st, .slice aa na ca, .slice ab nb cb]) f) (hd : RelAt w w.heap.size (.agg #[.int .i64 k2, .int .i64 s2, .slice a2 n2 c2, .slice b2 m2 d2]) d) (hk : k = f.tapes) (hk2 : k2 = d.tapes) (N : Nat)
    (hN : w.heap[N]? = some (.cells #[.int .i64 k, .int .i64 st, .slice aa na ca, .slice ab nb cb] 27 (0, 0))) :
    Calls Tryz.prog 50 #[.agg #[.int .i64 k2, .int .i64 s2, .slice a2 n2 c2, .slice b2 m2 d2], .slice (some ⟨N, 0, none⟩) 1 1] w fun e w' => e = .returned (.int .i64 (rstC f d)) ∧ Below w.heap.size w w' := by
  have HVF := Lib.hid (fun W (hb : Below w.heap.size w W) => ValidImpl.implValid _ f W w.heap.size (hf.below hb (Nat.le_refl _)) hb.size)
  have HVD := Lib.hid (fun W (hb : Below w.heap.size w W) => ValidImpl.implValid _ d W w.heap.size (hd.below hb (Nat.le_refl _)) hb.size)
  have HE0 := Lib.hid (show ¬ (okB f = true ∧ okB d = true) → rstC f d = 1 from fun h => if_neg h)
  have HE1 := Lib.hid (show okB f = true ∧ okB d = true → rstC f d = if k = 2 ∧ k2 = 1 then 0 else 2 from fun h => by unfold rstC; rw [if_pos h, hk, hk2])
  obtain ⟨C, hC⟩ : ∃ y, y = rstC f d := ⟨_, rfl⟩
  obtain ⟨qf, hqf⟩ : ∃ y, y = okB f := ⟨_, rfl⟩
  obtain ⟨qd, hqd⟩ : ∃ y, y = okB d := ⟨_, rfl⟩
  rw [← hC, ← hqf, ← hqd] at HE0 HE1
  rw [← hqf] at HVF
  rw [← hqd] at HVD
  rw [← hC]
  have HN := Lib.hid hN
  have HLN := Lib.hid (lt_of_block hN)
  obtain ⟨W1, hW1⟩ : ∃ W, W = w.alloc (.cells #[.int .i64 k2, .int .i64 s2, .slice a2 n2 c2, .slice b2 m2 d2] 27) := ⟨_, rfl⟩
  have hb1 : Below w.heap.size w W1 := by rw [hW1]; exact (Below.refl _ _).alloc (Nat.le_refl _) _
  have hd1 : W1.heap[w.heap.size]? = some (.cells #[.int .i64 k2, .int .i64 s2, .slice a2 n2 c2, .slice b2 m2 d2] 27 (0, 0)) := by rw [hW1]; exact heap_alloc_new _ _
  have HD1 := Lib.hid hd1
  have HB1 := Lib.hid hb1
  have HW1 := Lib.hid hW1
  have HV1 := Lib.hid (HVD.out W1 hb1)
  have x0 := cells_get (hd1) 0
  have x1 := cells_get (hd1) 1
  have x2 := cells_get (hd1) 2
  have x3 := cells_get (hd1) 3
  have lx := lt_of_block hd1
  simp at x0 x1 x2 x3
  clear hC hqf hqd hk hk2 hf hd hN hW1 hb1 hd1 HVD
  go_enter Tryz.func50, Tryz.ntmps50
  go_upto_region 1 with fail
  rw [← HW1.out]
  go_wp2_with fail
  refine HV1.out.mono ?_
  rintro e w3 ⟨rfl, hb3⟩
  have HB3 := Lib.hid (HB1.out.trans (hb3.mono HB1.out.size))
  have HD3 := Lib.hid (show w3.heap[w.heap.size]? = some (.cells #[.int .i64 k2, .int .i64 s2, .slice a2 n2 c2, .slice b2 m2 d2] 27 (0, 0)) from (hb3.block _ (lt_of_block HD1.out)).trans HD1.out)
  clear hb3 HV1 x0 x1 x2 x3 lx HW1 HB1 HD1
  cases qd with
  | false =>
    obtain rfl := HE0.out (fun h => by cases h.2)
    clear HE0 HE1 HVF
    go_wp2_with fail
    go_ret
    exact ⟨rfl, HB3.out⟩
  | true =>
    have hn3 := (HB3.out.block N HLN.out).trans HN.out
    have hl3 := lt_of_block hn3
    have x0 := cells_get (hn3) 0
    have x1 := cells_get (hn3) 1
    have x2 := cells_get (hn3) 2
    have x3 := cells_get (hn3) 3
    simp at x0 x1 x2 x3
    obtain ⟨W4, hW4⟩ : ∃ W, W = w3.alloc (.cells #[.int .i64 k, .int .i64 st, .slice aa na ca, .slice ab nb cb] 27) := ⟨_, rfl⟩
    have hb4 : Below w3.heap.size w3 W4 := by rw [hW4]; exact (Below.refl _ _).alloc (Nat.le_refl _) _
    have HB4 := Lib.hid (HB3.out.trans (hb4.mono HB3.out.size))
    have HV4 := Lib.hid (HVF.out W4 HB4.out)
    have HW4 := Lib.hid hW4
    have HD4 := Lib.hid (show W4.heap[w.heap.size]? = some (.cells #[.int .i64 k2, .int .i64 s2, .slice a2 n2 c2, .slice b2 m2 d2] 27 (0, 0)) from (hb4.block _ (lt_of_block HD3.out)).trans HD3.out)
    clear hn3 hW4 hb4 HVF
    go_wp2_with fail
    refine wp_loop_rounds 2 ?_
    rw [rounds_succ]
    go_wp2_with fail
    rw [← HW4.out]
    refine HV4.out.mono ?_
    rintro e w5 ⟨rfl, hb5⟩
    have HB5 := Lib.hid (HB4.out.trans (hb5.mono HB4.out.size))
    have hd5 : w5.heap[w.heap.size]? = some (.cells #[.int .i64 k2, .int .i64 s2, .slice a2 n2 c2, .slice b2 m2 d2] 27 (0, 0)) := (hb5.block _ (lt_of_block HD4.out)).trans HD4.out
    have hn5 := (HB5.out.block N HLN.out).trans HN.out
    have hl5 := lt_of_block hn5
    have ld5 := lt_of_block hd5
    clear x0 x1 x2 x3 hl3
    have x0 := cells_get (hn5) 0
    have x1 := cells_get (hn5) 1
    have x2 := cells_get (hn5) 2
    have x3 := cells_get (hn5) 3
    have z0 := cells_get hd5 0
    simp at x0 x1 x2 x3 z0
    clear hb5 hd5 hn5 HV4 HW4 HB4 HD4 HD3 HB3
    cases qf with
    | false =>
      obtain rfl := HE0.out (fun h => by cases h.1)
      clear HE0 HE1
      go_wp2_with fail
      go_ret
      exact ⟨rfl, HB5.out⟩
    | true =>
      have HE2 := Lib.hid (HE1.out (by first | trivial | simp))
      clear HE0 HE1
      by_cases h1 : k2 = 1
      · have hne1 : (k2 != 1) = false := by simpa using h1
        by_cases h2 : k = 2
        · have hc : C = 0 := by rw [HE2.out, if_pos ⟨h2, h1⟩]
          subst hc
          have hne2 : (k != 2) = false := by simpa using h2
          clear h1 h2
          go_wp2_with fail
          rw [rounds_succ]
          go_wp2_with fail
          refine wp_loop_rounds 2 ?_
          rw [rounds_succ]
          go_wp2_with fail
          rw [rounds_succ]
          go_wp2_with fail
          go_ret
          exact ⟨rfl, HB5.out.alloc HB5.out.size _⟩
        · have hc : C = 2 := by rw [HE2.out, if_neg (fun h => h2 h.1)]
          subst hc
          have hne2 : (k != 2) = true := by simpa using h2
          clear h1 h2
          go_wp2_with fail
          rw [rounds_succ]
          go_wp2_with fail
          refine wp_loop_rounds 2 ?_
          rw [rounds_succ]
          go_wp2_with fail
          go_ret
          exact ⟨rfl, HB5.out.alloc HB5.out.size _⟩
      · have hc : C = 2 := by rw [HE2.out, if_neg (fun h => h1 h.2)]
        subst hc
        have hne1 : (k2 != 1) = true := by simpa using h1
        clear h1
        go_wp2_with fail
        rw [rounds_succ]
        go_wp2_with fail
        go_ret
        exact ⟨rfl, HB5.out⟩

/-- The closures' cells. -/
def TF (W : World) (b : Nat) : Prop := W.cell? ⟨b, 0, none⟩ = some (.int .i64 1) ∧ b < W.heap.size
def JF (W : World) (x : Array Value) (b1 b2 : Nat) : Prop := W.heap[b1]? = some (.cells x 27 (0, 0)) ∧ W.cell? ⟨b2, 0, none⟩ = some (.func (.func 53) #[] #[]) ∧ b2 < W.heap.size
theorem TF.below {W W' : World} {b : Nat} (h : TF W b) (hb : Below W.heap.size W W') : TF W' b := ⟨(hb.cell (p := ⟨b, 0, none⟩) h.2).trans h.1, Nat.lt_of_lt_of_le h.2 hb.size⟩
theorem JF.below {W W' : World} {x : Array Value} {b1 b2 : Nat} (h : JF W x b1 b2) (hb : Below W.heap.size W W') : JF W' x b1 b2 :=
  ⟨(hb.block b1 (lt_of_block h.1)).trans h.1, (hb.cell (p := ⟨b2, 0, none⟩) h.2.2).trans h.2.1, Nat.lt_of_lt_of_le h.2.2 hb.size⟩
theorem tapeC (w : World) : Calls Tryz.prog 51 #[.int .i64 1] w fun e w' => ∃ b, e = .returned (.func (.func 83) #[] #[.pointer (some ⟨b, 0, none⟩)]) ∧ TF w' b ∧ Below w.heap.size w w' := by
  refine (tapeAddedI 1 w).mono ?_
  rintro e w' ⟨rfl, rfl⟩
  exact ⟨_, rfl, ⟨by rw [cells_get (heap_alloc_new _ _)]; rfl, by rw [size_alloc']; omega⟩, (Below.refl _ _).alloc (Nat.le_refl _) _⟩
theorem joinC (k st : Int) (aa ab : Option Addr) (na ca nb cb : Nat) (w : World) :
    Calls Tryz.prog 52 #[.agg #[.int .i64 k, .int .i64 st, .slice aa na ca, .slice ab nb cb], .func (.func 53) #[] #[]] w fun e w' => ∃ b1 b2, e = .returned (.func (.func 85) #[] #[.pointer (some ⟨b1, 0, none⟩), .pointer (some ⟨b2, 0, none⟩)]) ∧ JF w' #[.int .i64 k, .int .i64 st, .slice aa na ca, .slice ab nb cb] b1 b2 ∧ Below w.heap.size w w' := by
  refine (joinWithI 53 k st aa ab na ca nb cb w).mono ?_
  rintro e w' ⟨rfl, rfl⟩
  have h2 := heap_alloc_new (w.alloc (.cells #[.int .i64 k, .int .i64 st, .slice aa na ca, .slice ab nb cb] 27)) (.cells #[.func (.func 53) #[] #[]] 88)
  rw [size_alloc'] at h2
  exact ⟨_, _, rfl, ⟨by rw [Below.heap_alloc _ _ _ (by rw [size_alloc']; omega)]; exact heap_alloc_new _ _, by rw [cells_get h2]; rfl, by rw [size_alloc', size_alloc']; omega⟩, ((Below.refl _ _).alloc (Nat.le_refl _) _).alloc (by rw [size_alloc']; omega) _⟩
end Go.Proofs.YtcpcbmappcndcaaGreatDoor.RstI
/- What the model's RestrictFunction answers: a relation in memory of its own, and a code.
   Conditions: the relations are read as XRel's text says. -/
namespace Go.Proofs.YtcpcbmappcndcaaGreatDoor.RstS
set_option linter.unusedVariables false
set_option linter.unusedSimpArgs false
set_option linter.ambiguousOpen false
set_option maxRecDepth 100000
open Go.RowKit Mem Copy Rel Valid Heap Bld Columns TidyMath TidyAuto TidyRight SpecFiner SpecRight ToL SpecTidyRel ImplRight ImplTidied ErrCode OppImpl PairMath PairsI TwoImpl StepI TapeFn AddFn PairSwap ToldI RstI

set_option maxHeartbeats 8000000 in
theorem domS (f d : R) (bp bq : Nat) (w : World) (B : Nat) (h : RelPtr w B bp f) (h' : RelPtr w B bq d) :
    Calls Tryz.prog 47 #[.pointer (some ⟨bp, 0, none⟩), .pointer (some ⟨bq, 0, none⟩)] w fun e w' => e = .returned (.int .i64 (rstC f d)) ∧ ∃ m, w' = w.drewN m := by
  have HV1 := Lib.hid (fun m => specOk f bp (w.drewN m) B (h.drewN m))
  have HV2 := Lib.hid (fun m => specOk d bq (w.drewN m) B (h'.drewN m))
  have HV0 := Lib.hid (specOk f bp w B h)
  have HE0 := Lib.hid (show ¬ (okB f = true ∧ okB d = true) → rstC f d = 1 from fun h => if_neg h)
  have HE1 := Lib.hid (show okB f = true ∧ okB d = true → rstC f d = if f.tapes = 2 ∧ d.tapes = 1 then 0 else 2 from fun h => by unfold rstC; rw [if_pos h])
  obtain ⟨va, vn, c0, -, -, -, -, -⟩ := h
  obtain ⟨va2, vn2, e0, -, -, -, -, -⟩ := h'
  obtain ⟨C, hC⟩ : ∃ y, y = rstC f d := ⟨_, rfl⟩
  obtain ⟨qf, hqf⟩ : ∃ y, y = okB f := ⟨_, rfl⟩
  obtain ⟨qd, hqd⟩ : ∃ y, y = okB d := ⟨_, rfl⟩
  rw [← hC, ← hqf, ← hqd] at HE0 HE1
  rw [← hqf] at HV0
  rw [← hqd] at HV2
  rw [← hC]
  obtain ⟨k, hk⟩ : ∃ k : Int, k = f.tapes := ⟨_, rfl⟩
  obtain ⟨k2, hk2⟩ : ∃ k : Int, k = d.tapes := ⟨_, rfl⟩
  rw [← hk] at c0 HE1
  rw [← hk2] at e0 HE1
  clear hC hqf hqd hk hk2 HV1
  go_enter Tryz.func47, Tryz.ntmps47
  go_wp2_with fail
  refine HV0.out.mono ?_
  rintro e w' ⟨rfl, m, rfl⟩
  cases qf with
  | false =>
    obtain rfl := HE0.out (fun h => by cases h.1)
    clear HE0 HE1 HV2
    go_wp2_with fail
    go_ret
    exact ⟨rfl, _, rfl⟩
  | true =>
    have HV3 := Lib.hid (HV2.out m)
    cases qd with
    | false =>
      obtain rfl := HE0.out (fun h => by cases h.2)
      clear HE0 HE1 HV2
      go_wp2_with (go_at_call 54; refine HV3.out.mono ?_; rintro e w' ⟨rfl, m2, rfl⟩)
      go_ret
      exact ⟨rfl, _, rfl⟩
    | true =>
      have HE2 := Lib.hid (HE1.out (by first | trivial | simp))
      clear HE0 HE1 HV2
      by_cases h2 : k = 2
      · by_cases h1 : k2 = 1
        · have hc : C = 0 := by rw [HE2.out, if_pos ⟨h2, h1⟩]
          subst hc
          have hne1 : (k2 != 1) = false := by simpa using h1
          have hne2 : (k != 2) = false := by simpa using h2
          clear h1 h2
          go_wp2_with (go_at_call 54; refine HV3.out.mono ?_; rintro e w' ⟨rfl, m2, rfl⟩)
          go_ret
          exact ⟨rfl, _, rfl⟩
        · have hc : C = 2 := by rw [HE2.out, if_neg (fun h => h1 h.2)]
          subst hc
          have hne1 : (k2 != 1) = true := by simpa using h1
          have hne2 : (k != 2) = false := by simpa using h2
          clear h1 h2
          go_wp2_with (go_at_call 54; refine HV3.out.mono ?_; rintro e w' ⟨rfl, m2, rfl⟩)
          go_ret
          exact ⟨rfl, _, rfl⟩
      · have hc : C = 2 := by rw [HE2.out, if_neg (fun h => h2 h.1)]
        subst hc
        have hne2 : (k != 2) = true := by simpa using h2
        clear h2
        go_wp2_with (go_at_call 54; refine HV3.out.mono ?_; rintro e w' ⟨rfl, m2, rfl⟩)
        go_ret
        exact ⟨rfl, _, rfl⟩

set_option maxHeartbeats 8000000 in
theorem specRst (v u : Value) (f d : R) (w : World) (B : Nat) (h : RelAt w B v f) (h' : RelAt w B u d) (hB : B ≤ w.heap.size) :
    Calls Tryz.prog 22 #[v, u] w fun e w' => ∃ va vn, e = .returned (.tuple #[.agg #[.int .i64 (rstK f d), .int .i64 0, va, vn], .int .i64 (rstV f d)]) ∧ Built w' w.heap.size va vn (rstA f d) (rstN f d) ∧ Below w.heap.size w w' := by
  have hR := h
  have hR' := h'
  have HDS := Lib.hid (fun W bp bq (h1 : RelPtr W W.heap.size bp f) (h2 : RelPtr W W.heap.size bq d) => domS f d bp bq W W.heap.size h1 h2)
  have HAD := Lib.hid (fun (h0 : rstC f d = 0) W (hb : Below w.heap.size w W) => (show Calls Tryz.prog 48 #[u, .int .i64 1] W fun e w' => ∃ va vn, e = .returned (.tuple #[.agg #[.int .i64 (fewK (addL d 1) 150), .int .i64 0, va, vn], .int .i64 (if rstB d = true then 0 else 3)]) ∧ Built w' W.heap.size va vn (fewA (addL d 1) 150) (fewN (addL d 1) 150) ∧ Below W.heap.size W w' from by
    have hh := AddFnS.specAdd u d 1 W B (h'.below hb hB) (Nat.le_trans hB hb.size)
    obtain ⟨a1, a2, a3, a4⟩ := ans_yes (addL d 1) (rst_add h0).2.2.1
    rw [a1, a2, a3, a4] at hh
    exact hh))
  have HBO := Lib.hid (fun (h0 : rstC f d = 0) (hb0 : rstB d = true) W (hb : Below w.heap.size w W) x y (hu : RelAt W W.heap.size (.agg #[.int .i64 (fewK (addL d 1) 150), .int .i64 0, x, y]) ⟨fewK (addL d 1) 150, 0, fewA (addL d 1) 150, fewN (addL d 1) 150⟩) => (show Calls Tryz.prog 49 #[v, .agg #[.int .i64 (fewK (addL d 1) 150), .int .i64 0, x, y]] W fun e w' => ∃ va vn, e = .returned (.tuple #[.agg #[.int .i64 (rstK f d), .int .i64 0, va, vn], .int .i64 (rstV f d)]) ∧ Built w' W.heap.size va vn (rstA f d) (rstN f d) ∧ Below W.heap.size W w' from by
    have e : (⟨fewK (addL d 1) 150, 0, fewA (addL d 1) 150, fewN (addL d 1) 150⟩ : R) = relOf (rstL d) := by
      rw [tidL_rel]
      unfold fewK fewA fewN
      rw [show fewB (addL d 1) 150 = true from hb0]
      rfl
    rw [e] at hu
    obtain ⟨y1, y2, y3, y4⟩ := rst_yes h0 hb0
    rw [y1, y2, y3, y4]
    exact TwoSpec.specBothRelations v _ f (relOf (rstL d)) W W.heap.size ((h.below hb hB).mono (Nat.le_trans hB hb.size)) hu (Nat.le_refl _)))
  have HN0 := Lib.hid (fun h0 => rst_no (f := f) (d := d) h0)
  have HN1 := Lib.hid (fun h0 hb0 => rst_many (f := f) (d := d) h0 hb0)
  obtain ⟨C0, hC0⟩ : ∃ y, y = rstC f d := ⟨_, rfl⟩
  obtain ⟨cC, hcC⟩ : ∃ y, y = rstV f d := ⟨_, rfl⟩
  obtain ⟨cK, hcK⟩ : ∃ y, y = rstK f d := ⟨_, rfl⟩
  obtain ⟨cA, hcA⟩ : ∃ y, y = rstA f d := ⟨_, rfl⟩
  obtain ⟨cN, hcN⟩ : ∃ y, y = rstN f d := ⟨_, rfl⟩
  obtain ⟨Q1, hQ1⟩ : ∃ y, y = rstB d := ⟨_, rfl⟩
  obtain ⟨pK, hpK⟩ : ∃ y, y = fewK (addL d 1) 150 := ⟨_, rfl⟩
  obtain ⟨pA, hpA⟩ : ∃ y, y = fewA (addL d 1) 150 := ⟨_, rfl⟩
  obtain ⟨pN, hpN⟩ : ∃ y, y = fewN (addL d 1) 150 := ⟨_, rfl⟩
  rw [← hC0, ← hpK, ← hpA, ← hpN, ← hQ1] at HAD
  rw [← hC0, ← hpK, ← hpA, ← hpN, ← hQ1, ← hcC, ← hcK, ← hcA, ← hcN] at HBO
  rw [← hC0, ← hcC, ← hcK, ← hcA, ← hcN] at HN0
  rw [← hC0, ← hQ1, ← hcC, ← hcK, ← hcA, ← hcN] at HN1
  rw [← hC0] at HDS
  rw [← hcC, ← hcK, ← hcA, ← hcN]
  clear hC0 hcC hcK hcA hcN hQ1 hpK hpA hpN
  have HP1 := Lib.hid (fun (W : World) (b : Nat) (va vn : Value) (h : RelAt w B (.agg #[.int .i64 f.tapes, .int .i64 f.start, va, vn]) f) (hb : Below w.heap.size w W) (hx : W.heap[b]? = some (.cells #[.int .i64 f.tapes, .int .i64 f.start, va, vn] 27 (0, 0))) => box_ptr h hB hb hx)
  have HP2 := Lib.hid (fun (W : World) (b : Nat) (va vn : Value) (h : RelAt w B (.agg #[.int .i64 d.tapes, .int .i64 d.start, va, vn]) d) (hb : Below w.heap.size w W) (hx : W.heap[b]? = some (.cells #[.int .i64 d.tapes, .int .i64 d.start, va, vn] 27 (0, 0))) => box_ptr h hB hb hx)
  obtain ⟨va, vn, rfl, ha, hx⟩ := h
  obtain ⟨aa, ba, oa, ca, rfl, -, -, -⟩ := ha
  obtain ⟨-, ⟨ab, bb, ob, cb, rfl, -, -, -⟩, -⟩ := hx
  obtain ⟨va2, vn2, rfl, ha2, hx2⟩ := h'
  obtain ⟨a2, ba2, oa2, c2, rfl, -, -, -⟩ := ha2
  obtain ⟨-, ⟨b2, bb2, ob2, d2, rfl, -, -, -⟩, -⟩ := hx2
  obtain ⟨k, hk⟩ : ∃ k : Int, k = f.tapes := ⟨_, rfl⟩
  obtain ⟨st, hs⟩ : ∃ st : Int, st = f.start := ⟨_, rfl⟩
  obtain ⟨na, hna⟩ : ∃ na, na = f.accept.length := ⟨_, rfl⟩
  obtain ⟨nb, hnb⟩ : ∃ nb, nb = f.next.length := ⟨_, rfl⟩
  obtain ⟨k2, hk2⟩ : ∃ k : Int, k = d.tapes := ⟨_, rfl⟩
  obtain ⟨s2, hs2⟩ : ∃ st : Int, st = d.start := ⟨_, rfl⟩
  obtain ⟨n2, hn2⟩ : ∃ na, na = d.accept.length := ⟨_, rfl⟩
  obtain ⟨m2, hm2⟩ : ∃ nb, nb = d.next.length := ⟨_, rfl⟩
  rw [← hk, ← hs, ← hna, ← hnb] at hR HBO
  rw [← hk2, ← hs2, ← hn2, ← hm2] at hR' HAD
  rw [← hk, ← hs] at HP1
  rw [← hk2, ← hs2] at HP2
  rw [← hk, ← hs, ← hna, ← hnb, ← hk2, ← hs2, ← hn2, ← hm2]
  have HK0 := Lib.hid (show PairsI.K3 w #[.int .i64 k, .int .i64 st, .slice aa na ca, .slice ab nb cb] #[.int .i64 k2, .int .i64 s2, .slice a2 n2 c2, .slice b2 m2 d2] (((w.alloc (.cells #[.int .i64 k, .int .i64 st, .slice aa na ca, .slice ab nb cb] 27)).alloc (.cells #[.int .i64 k2, .int .i64 s2, .slice a2 n2 c2, .slice b2 m2 d2] 27)).alloc (.cells #[Value.int .i64 0, .int .i64 0, .slice none 0 0, .slice none 0 0] 27)) from Below.refl _ _)
  have HST := Lib.hid (fun W W' (h : PairsI.K3 w #[.int .i64 k, .int .i64 st, .slice aa na ca, .slice ab nb cb] #[.int .i64 k2, .int .i64 s2, .slice a2 n2 c2, .slice b2 m2 d2] W) (hb : Below W.heap.size W W') => (show PairsI.K3 w #[.int .i64 k, .int .i64 st, .slice aa na ca, .slice ab nb cb] #[.int .i64 k2, .int .i64 s2, .slice a2 n2 c2, .slice b2 m2 d2] W' from Below.trans h (hb.mono (PairsI.K3.size h))))
  obtain ⟨W1, hW1⟩ : ∃ W, W = (((w.alloc (.cells #[.int .i64 k, .int .i64 st, .slice aa na ca, .slice ab nb cb] 27)).alloc (.cells #[.int .i64 k2, .int .i64 s2, .slice a2 n2 c2, .slice b2 m2 d2] 27)).alloc (.cells #[Value.int .i64 0, .int .i64 0, .slice none 0 0, .slice none 0 0] 27)) := ⟨_, rfl⟩
  rw [← hW1] at HK0
  have HV1 := Lib.hid (HDS.out W1 w.heap.size (w.heap.size + 1) (HP1.out W1 _ _ _ hR (PairsI.K3.base HK0.out) (PairsI.K3.box1 HK0.out)) (HP2.out W1 _ _ _ hR' (PairsI.K3.base HK0.out) (PairsI.K3.box2 HK0.out)))
  have HW1 := Lib.hid hW1
  clear hk hs hna hnb hk2 hs2 hn2 hm2 hB hR hR' HP1 HP2 HDS hW1
  go_enter Tryz.func22, Tryz.ntmps22
  go_upto_region 1 with fail
  rw [← HW1.out]
  go_wp2_with fail
  refine HV1.out.mono ?_
  rintro e w3 ⟨rfl, mq, hw3⟩
  have HK3 : Hid (PairsI.K3 w #[.int .i64 k, .int .i64 st, .slice aa na ca, .slice ab nb cb] #[.int .i64 k2, .int .i64 s2, .slice a2 n2 c2, .slice b2 m2 d2] w3) := by rw [hw3]; exact Lib.hid (below_drewN HK0.out mq)
  have r0 := cells_get (PairsI.K3.res HK3.out) 0
  have r1 := cells_get (PairsI.K3.res HK3.out) 1
  have r2 := cells_get (PairsI.K3.res HK3.out) 2
  have r3 := cells_get (PairsI.K3.res HK3.out) 3
  have f0 := cells_free (PairsI.K3.res HK3.out) 0
  have f1 := cells_free (PairsI.K3.res HK3.out) 1
  have f2 := cells_free (PairsI.K3.res HK3.out) 2
  have f3 := cells_free (PairsI.K3.res HK3.out) 3
  have hlS := lt_of_block (PairsI.K3.res HK3.out)
  have x0 := cells_get (PairsI.K3.box1 HK3.out) 0
  have x1 := cells_get (PairsI.K3.box1 HK3.out) 1
  have x2 := cells_get (PairsI.K3.box1 HK3.out) 2
  have x3 := cells_get (PairsI.K3.box1 HK3.out) 3
  have y0 := cells_get (PairsI.K3.box2 HK3.out) 0
  have y1 := cells_get (PairsI.K3.box2 HK3.out) 1
  have y2 := cells_get (PairsI.K3.box2 HK3.out) 2
  have y3 := cells_get (PairsI.K3.box2 HK3.out) 3
  have lx := lt_of_block (PairsI.K3.box1 HK3.out)
  have ly := lt_of_block (PairsI.K3.box2 HK3.out)
  simp at r0 r1 r2 r3 x0 x1 x2 x3 y0 y1 y2 y3
  clear hw3 HV1 HK0 HW1
  by_cases h0 : C0 = 0
  · have HA1 := Lib.hid (HAD.out h0)
    cases Q1 with
    | false =>
      obtain ⟨rfl, rfl, rfl, rfl⟩ := HN1.out h0 rfl
      subst h0
      clear HN0 HN1 HBO HAD
      go_wp2_with (go_at_call 48; refine (HA1.out w3 (PairsI.K3.base HK3.out)).mono ?_; rintro e w4 ⟨va4, vn4, rfl, hbu, hb4⟩; have HK4 := Lib.hid (HST.out _ _ HK3.out hb4); obtain ⟨a4, n4, c4, rfl, -⟩ := hbu.acc.shape'; obtain ⟨items4, -, hnx4, -⟩ := hbu.rows; obtain ⟨b4, m4, d4, rfl, -⟩ := hnx4.shape'; have HK5 := Lib.hid (HST.out _ _ HK4.out ((Below.refl _ _).alloc (Nat.le_refl _) (.cells #[.int .i64 pK, .int .i64 0, .slice a4 n4 c4, .slice b4 m4 d4] 27))); clear hbu hb4 hnx4 r0 r1 r2 r3 f0 f1 f2 f3 hlS x0 x1 x2 x3 y0 y1 y2 y3 lx ly; have r0 := cells_get (PairsI.K3.res HK5.out) 0; have r1 := cells_get (PairsI.K3.res HK5.out) 1; have r2 := cells_get (PairsI.K3.res HK5.out) 2; have r3 := cells_get (PairsI.K3.res HK5.out) 3; have f0 := cells_free (PairsI.K3.res HK5.out) 0; have f1 := cells_free (PairsI.K3.res HK5.out) 1; have f2 := cells_free (PairsI.K3.res HK5.out) 2; have f3 := cells_free (PairsI.K3.res HK5.out) 3; have hlS := lt_of_block (PairsI.K3.res HK5.out); simp at r0 r1 r2 r3)
      obtain ⟨g0, g1, g2, g3⟩ := res4 (a := .int .i64 0) (b := .int .i64 0) (c := .slice none 0 0) (d := .slice none 0 0) (PairsI.K3.res HK5.out)
      refine bodyPost_ret (v := .tuple #[.agg #[.int .i64 0, .int .i64 0, .slice none 0 0, .slice none 0 0], .int .i64 3]) (by simp [results, Tryz.results22, go_sem, g0, g1, g2, g3]) rfl ⟨.slice none 0 0, .slice none 0 0, rfl, ImplTidied.built_none _ _, ?_⟩
      exact set4_below (PairsI.K3.base HK5.out) (by omega)
    | true =>
      have HB1 := Lib.hid (HBO.out h0 rfl)
      subst h0
      clear HN0 HN1 HBO HAD
      go_wp2_with (first
        | (go_at_call 48; refine (HA1.out w3 (PairsI.K3.base HK3.out)).mono ?_; rintro e w4 ⟨va4, vn4, rfl, hbu, hb4⟩; have HK4 := Lib.hid (HST.out _ _ HK3.out hb4); have HR4 := Lib.hid (fun W (hb : Below w4.heap.size w4 W) => (hbu.below hb).reads W.heap.size (Nat.le_refl _) pK 0); obtain ⟨a4, n4, c4, rfl, -⟩ := hbu.acc.shape'; obtain ⟨items4, -, hnx4, -⟩ := hbu.rows; obtain ⟨b4, m4, d4, rfl, -⟩ := hnx4.shape'; have HB5 := Lib.hid (show Below w4.heap.size w4 (w4.alloc (.cells #[.int .i64 pK, .int .i64 0, .slice a4 n4 c4, .slice b4 m4 d4] 27)) from (Below.refl _ _).alloc (Nat.le_refl _) _); have HK5 := Lib.hid (HST.out _ _ HK4.out HB5.out); have HR5 := Lib.hid (HR4.out _ HB5.out); clear hbu hb4 hnx4 r0 r1 r2 r3 f0 f1 f2 f3 hlS x0 x1 x2 x3 y0 y1 y2 y3 lx ly; have r0 := cells_get (PairsI.K3.res HK5.out) 0; have r1 := cells_get (PairsI.K3.res HK5.out) 1; have r2 := cells_get (PairsI.K3.res HK5.out) 2; have r3 := cells_get (PairsI.K3.res HK5.out) 3; have f0 := cells_free (PairsI.K3.res HK5.out) 0; have f1 := cells_free (PairsI.K3.res HK5.out) 1; have f2 := cells_free (PairsI.K3.res HK5.out) 2; have f3 := cells_free (PairsI.K3.res HK5.out) 3; have hlS := lt_of_block (PairsI.K3.res HK5.out); simp at r0 r1 r2 r3; have x0 := cells_get (PairsI.K3.box1 HK5.out) 0; have x1 := cells_get (PairsI.K3.box1 HK5.out) 1; have x2 := cells_get (PairsI.K3.box1 HK5.out) 2; have x3 := cells_get (PairsI.K3.box1 HK5.out) 3; have y0 := cells_get (PairsI.K3.box2 HK5.out) 0; have y1 := cells_get (PairsI.K3.box2 HK5.out) 1; have y2 := cells_get (PairsI.K3.box2 HK5.out) 2; have y3 := cells_get (PairsI.K3.box2 HK5.out) 3; have lx := lt_of_block (PairsI.K3.box1 HK5.out); have ly := lt_of_block (PairsI.K3.box2 HK5.out); simp at x0 x1 x2 x3 y0 y1 y2 y3)
        | (go_at_call 49; refine (HB1.out _ (PairsI.K3.base HK5.out) _ _ HR5.out).mono ?_; rintro e w6 ⟨va6, vn6, rfl, hbu, hb6⟩; have HK6 := Lib.hid (HST.out _ _ HK5.out hb6); have HBU := Lib.hid (hbu.mono (PairsI.K3.size HK5.out)); obtain ⟨a6, n6, c6, rfl, -⟩ := hbu.acc.shape'; obtain ⟨items6, -, hnx6, -⟩ := hbu.rows; obtain ⟨b6, m6, d6, rfl, -⟩ := hnx6.shape'; clear hbu hb6 hnx6 r0 r1 r2 r3 f0 f1 f2 f3 hlS x0 x1 x2 x3 y0 y1 y2 y3 lx ly; have r0 := cells_get (PairsI.K3.res HK6.out) 0; have r1 := cells_get (PairsI.K3.res HK6.out) 1; have r2 := cells_get (PairsI.K3.res HK6.out) 2; have r3 := cells_get (PairsI.K3.res HK6.out) 3; have f0 := cells_free (PairsI.K3.res HK6.out) 0; have f1 := cells_free (PairsI.K3.res HK6.out) 1; have f2 := cells_free (PairsI.K3.res HK6.out) 2; have f3 := cells_free (PairsI.K3.res HK6.out) 3; have hlS := lt_of_block (PairsI.K3.res HK6.out); simp at r0 r1 r2 r3))
      obtain ⟨g0, g1, g2, g3⟩ := res4 (a := .int .i64 cK) (b := .int .i64 0) (c := .slice a6 n6 c6) (d := .slice b6 m6 d6) (PairsI.K3.res HK6.out)
      refine bodyPost_ret (v := .tuple #[.agg #[.int .i64 cK, .int .i64 0, .slice a6 n6 c6, .slice b6 m6 d6], .int .i64 cC]) (by simp [results, Tryz.results22, go_sem, g0, g1, g2, g3]) rfl ⟨.slice a6 n6 c6, .slice b6 m6 d6, rfl, ?_, ?_⟩
      · exact (set4_built HBU.out (by omega)).mono (by omega)
      · exact set4_below (PairsI.K3.base HK6.out) (by omega)
  · obtain ⟨rfl, rfl, rfl, rfl⟩ := HN0.out h0
    have hcne : (cC != 0) = true := by simpa using h0
    clear HN0 HN1 HBO HAD
    go_wp2_with fail
    obtain ⟨g0, g1, g2, g3⟩ := res4 (a := .int .i64 0) (b := .int .i64 0) (c := .slice none 0 0) (d := .slice none 0 0) (PairsI.K3.res HK3.out)
    refine bodyPost_ret (v := .tuple #[.agg #[.int .i64 0, .int .i64 0, .slice none 0 0, .slice none 0 0], .int .i64 cC]) (by simp [results, Tryz.results22, go_sem, g0, g1, g2, g3]) rfl ⟨.slice none 0 0, .slice none 0 0, rfl, ImplTidied.built_none _ _, ?_⟩
    exact set4_below (PairsI.K3.base HK3.out) (by omega)
end Go.Proofs.YtcpcbmappcndcaaGreatDoor.RstS
