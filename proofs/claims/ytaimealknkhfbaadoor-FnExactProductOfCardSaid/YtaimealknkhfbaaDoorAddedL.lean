
/- The automaton that the model makes of a relation with one tape more, the relation being of up to 12000 states.
   Conditions: stated at each theorem. -/
import Derived.Test.YtaimealknkhfbaaDoorRB10
import Derived.Test.YtaimealknkhfbaaDoorRB14
import Derived.Test.YtaimealknkhfbaaDoorRB24
import Derived.IntWalk
import Derived.Test.YtaimealknkhfbaaDoorRB12
import Derived.Test.YtaimealknkhfbaaDoorRB13
import Derived.Deep.RegionHeld3
import Derived.Deep.DrawnRows
import Derived.Deep.RegionLaw
import Derived.Deep.RegionWith
namespace Go.Proofs.YtaimealknkhfbaaDoor.AddedL
set_option linter.unusedVariables false
set_option linter.unusedSimpArgs false
set_option maxRecDepth 100000
open Go.RowKit Mem Copy Rel Valid Heap Bld Columns ColMath SpecFiner Numbers TidyMath TidyAuto TidyRight ToL SpecRight SpecTidied SpecTidyRel Automaton TapeMath PutS LeftS Push CopyI MovedS
attribute [local go_sem ↓] Go.wp_at_zero Go.wp_at_succ

set_option maxHeartbeats 16000000 in
theorem addedL (r : R) (hok : (relOf (toL r) = r ∧ (toL r).Ok) ∧ (toL r).acc.length ≤ 12000) (x : Nat) (hk2 : (toL r).k ≤ 2) (hx : x ≤ (toL r).k) (bp : Nat) (w : World) (B : Nat) (h : RelPtr w B bp r) (hB : B ≤ w.heap.size) (hbp : bp < w.heap.size) :
    Calls Tryd.prog 15 #[.pointer (some ⟨bp, 0, none⟩), .int .i64 x] w fun e w' => ∃ va vn, e = .returned (.agg #[.int .i64 (((toL r).k + 1 : Nat) : Int), .int .i64 0, va, vn]) ∧ Built w' w.heap.size va vn (tidyAcc (reL (toL r) ((toL r).k + 1) (leftN ((toL r).k + 1) x))) (tidyNext (reL (toL r) ((toL r).k + 1) (leftN ((toL r).k + 1) x))) ∧ Below w.heap.size w w' := by
  have h1 := hok
  have hlok := h1.1.2
  have ha0 : 0 < r.accept.length := Nat.lt_of_le_of_lt (Nat.zero_le _) h1.1.2.st
  have ha5 : r.accept.length ≤ 12000 := by have h2 := h1.2; have h3 : (toL r).acc.length = r.accept.length := rfl; omega
  have hlen : r.next.length = r.accept.length := by
    have h2 := h1.1.2.len
    have h3 : (toL r).nx.length = r.next.length := by show (r.next.map _).length = _; rw [List.length_map]
    have h4 : (toL r).acc.length = r.accept.length := rfl
    omega
  have hrel := h1.1.1
  have hk1 := hlok.k0
  have hk3 := hlok.k3
  have hrk : r.tapes = ((toL r).k : Int) := by
    have := congrArg R.tapes hrel
    simpa [relOf] using this.symm
  have hrs : r.start = ((toL r).start : Int) := by
    have := congrArg R.start hrel
    simpa [relOf] using this.symm
  have hm26 : wide (toL r).k ≤ 26 := by have := wide_cases hk1 hk3; omega
  have hm0 : 0 < wide (toL r).k := by have := wide_cases hk1 hk3; omega
  have HROW := Lib.hid (show ∀ i, i < r.accept.length → (r.next.getD i []).length = wide (toL r).k ∧ ∀ q, q < wide (toL r).k → (r.next.getD i []).getD q 0 = ((((toL r).nx.getD i []).getD q 0 : Nat) : Int) from fun i hi => by
    have hi' : i < (toL r).acc.length := hi
    have h2 := h1.1.2.row i hi'
    have hi2 : i < r.next.length := by omega
    have h3 : r.next.getD i [] = ofN ((toL r).nx.getD i []) := by
      have h5 := congrArg R.next hrel
      have h6 : r.next = (toL r).nx.map ofN := h5.symm
      have hi3 : i < (toL r).nx.length := by rw [h1.1.2.len]; exact hi'
      rw [h6]; simp [List.getD, hi3]
    rw [h3]
    exact ⟨by rw [ofN_length, h2], fun q hq => ofN_get _ (by rw [h2]; exact hq)⟩)
  obtain ⟨va, vn, c0, c1, c2, c3, hacc, hnx⟩ := h
  have HLOK0 := StepI.leftL_ok hlok hk2 hx
  have HLF0 := fun c (hc : c < wide ((toL r).k + 1)) => (left_fin hk1 hk2 hx hc).1
  obtain ⟨j, hj⟩ : ∃ j, j = (toL r).k + 1 := ⟨_, rfl⟩
  rw [← hj] at HLOK0 HLF0 ⊢
  have HLOK := Lib.hid HLOK0
  have HLF := Lib.hid HLF0
  have HJ := Lib.hid (show 1 ≤ j ∧ j ≤ 3 by omega)
  have HJE := Lib.hid hj
  have HRK := Lib.hid hrk
  have HRS := Lib.hid hrs
  have HREL := Lib.hid hrel
  have HLN := Lib.hid hlen
  have HOK := Lib.hid hlok
  have HM := Lib.hid (And.intro hm0 hm26)
  clear hj hrk hrs hrel hlen hlok h1 hok hm0 hm26 hk1 hk3 hk2 hx HLOK0 HLF0
  go_enter Tryd.func15, Tryd.ntmps15
  go_upto_region 1 with fail
  have HK := Lib.hid (show Kp w (w.alloc (.cells #[Value.int .i64 0, .int .i64 0, .slice none 0 0, .slice none 0 0] 27)) from Below.refl _ _)
  generalize w.alloc (.cells #[Value.int .i64 0, .int .i64 0, .slice none 0 0, .slice none 0 0] 27) = wr at HK ⊢
  obtain ⟨W1, hW1⟩ : ∃ W, W = wr := ⟨_, rfl⟩
  subst hW1
  have hbw := Kp.base HK.out
  have hBW : B ≤ W1.heap.size := Nat.le_trans hB hbw.size
  have HLB := Lib.hid (show bp < W1.heap.size from Nat.lt_of_lt_of_le hbp hbw.size)
  have HAC := Lib.hid (fun W (hb : KQ W1 W) => (hacc.below hbw hB).below hb hBW)
  obtain ⟨V, hsl, hrows⟩ := hnx
  obtain ⟨am, bm, om, cm, rfl, hmm, hma, hmc⟩ := hsl
  obtain ⟨m, hm⟩ : ∃ m, m = wide (toL r).k := ⟨_, rfl⟩
  obtain ⟨n, hn⟩ : ∃ n, n = r.accept.length := ⟨_, rfl⟩
  have hm1 : 0 < m ∧ m ≤ 26 := by rw [hm]; exact HM.out
  have hln := HLN.out
  rw [← hn] at hln
  rw [hln] at hmm hma hmc hrows c3
  obtain ⟨rfl, hbm⟩ := hma (by omega)
  have HRC := Lib.hid (show ∀ i, i < n → ∃ br or cr, br < W1.heap.size ∧ ∀ W, KQ W1 W → W.cell? ⟨bm, om + i, none⟩ = some (.slice (some ⟨br, or, none⟩) m cr) ∧ ∀ q, q < m → W.cell? ⟨br, or + q, none⟩ = some (.int .i64 ((((toL r).nx.getD i []).getD q 0 : Nat) : Int)) from fun i hi => by
    obtain ⟨hr1, hr2⟩ := HROW.out i (by rw [← hn]; exact hi)
    obtain ⟨ar, br, or, cr, hvr, hmr, har, hcr⟩ := hrows i hi
    rw [hr1, ← hm] at hvr hmr har hcr
    obtain ⟨rfl, hbr⟩ := har hm1.1
    refine ⟨br, or, cr, by omega, fun W hW => ⟨?_, fun q hq => ?_⟩⟩
    · rw [hW.cell (p := ⟨bm, om + i, none⟩) (by show bm < _; omega), hbw.cell (p := ⟨bm, om + i, none⟩) (by show bm < _; omega), hmc i hi, hvr]
    · rw [hW.cell (p := ⟨br, or + q, none⟩) (by show br < _; omega), hbw.cell (p := ⟨br, or + q, none⟩) (by show br < _; omega), hcr q hq]
      show some (Value.int .i64 ((r.next.getD i []).getD q 0)) = _
      rw [hr2 q (by rw [← hm]; exact hq)])
  obtain ⟨aa, ba, oa, ca, rfl, hna, haa, -⟩ := hacc
  obtain ⟨rfl, hab⟩ := haa ha0
  obtain ⟨k, hk⟩ : ∃ k, k = r.tapes := ⟨_, rfl⟩
  obtain ⟨st, hs⟩ : ∃ st, st = r.start := ⟨_, rfl⟩
  rw [← hn] at ha0 ha5 hna c2
  rw [← hk] at c0
  rw [← hs] at c1
  have HNN := Lib.hid hn
  have HMM := Lib.hid hm
  have HKR := Lib.hid (show k = ((toL r).k : Int) from by rw [hk, HRK.out])
  have HSR := Lib.hid (show st = ((toL r).start : Int) from hs.trans HRS.out)
  have HPB := Lib.hid (show ∀ W, KQ W1 W → W.cell? ⟨bp, 0, none⟩ = some (.int .i64 k) ∧ W.cell? ⟨bp, 1, none⟩ = some (.int .i64 st) ∧ W.cell? ⟨bp, 2, none⟩ = some (.slice (some ⟨ba, oa, none⟩) n ca) ∧ W.cell? ⟨bp, 3, none⟩ = some (.slice (some ⟨bm, om, none⟩) n cm) from fun W hb =>
    ⟨(hb.cell (p := ⟨bp, 0, none⟩) HLB.out).trans ((hbw.cell (p := ⟨bp, 0, none⟩) hbp).trans c0), (hb.cell (p := ⟨bp, 1, none⟩) HLB.out).trans ((hbw.cell (p := ⟨bp, 1, none⟩) hbp).trans c1), (hb.cell (p := ⟨bp, 2, none⟩) HLB.out).trans ((hbw.cell (p := ⟨bp, 2, none⟩) hbp).trans c2), (hb.cell (p := ⟨bp, 3, none⟩) HLB.out).trans ((hbw.cell (p := ⟨bp, 3, none⟩) hbp).trans c3)⟩)
  have HNEW := Lib.hid (show ∀ W, KQ W1 W → ∀ j u, (r.accept.map Value.bool)[j]? = some u → W.cell? ((⟨ba, oa, none⟩ : Addr).add j) = some u from fun W hW j u hj => by
    obtain ⟨a', b', o', c', e, -, he, hc⟩ := HAC.out _ hW
    obtain ⟨e1, -⟩ := he (by rw [← HNN.out]; exact ha0)
    injection e with e _ _
    rw [e1] at e
    injection e with e
    injection e with e2 e3
    subst e2 e3
    have hjl : j < r.accept.length := by
      apply Classical.byContradiction; intro h
      rw [List.getElem?_eq_none (by rw [List.length_map]; omega)] at hj; cases hj
    rw [List.getElem?_map, List.getElem?_eq_getElem hjl] at hj
    have hj' := Option.some.inj hj
    have this : _ = some (Value.bool (r.accept.getD j false)) := hc j hjl
    rw [show r.accept.getD j false = r.accept[j] from by simp [List.getD, hjl]] at this
    rw [← hj']
    have ea : (⟨ba, oa, none⟩ : Addr).add j = ⟨ba, oa + j, none⟩ := by simp [Addr.add]
    rw [ea]
    exact this)
  have HBASE := Lib.hid hbw
  clear hn hm hk hs c0 c1 c2 c3 hrows hmc hma hln hbw
  obtain ⟨k1, hk1e⟩ : ∃ z : Int, z = k + 1 := ⟨_, rfl⟩
  have HK1E := Lib.hid (show k1 = (j : Int) from by rw [hk1e, HKR.out]; have := HJE.out; omega)
  have hwr : IntKind.i64.wrap (k + 1) = k1 := by rw [← hk1e, HK1E.out]; exact IntWalk.i64_in _ (by have := HJ.out.2; omega)
  obtain ⟨m2, hm2⟩ : ∃ m2, m2 = wide j := ⟨_, rfl⟩
  have hm26 : m2 ≤ 26 := by have := wide_cases HJ.out.1 HJ.out.2; omega
  have HM2 := Lib.hid hm2
  obtain ⟨q0, q1, q2, q3⟩ := HPB.out W1 (Below.refl _ _)
  have hlb : bp < W1.heap.size := HLB.out
  clear hm2 hk1e
  go_upto_region 2 with fail
  clear hwr q0 q1 q2 q3 hlb
  have HC3 := Lib.hid (show ∀ W, KQ W1 W → W.cell? ⟨bp, 0, none⟩ = some (.int .i64 k) ∧ W.cell? ⟨bp, 1, none⟩ = some (.int .i64 st) ∧ W.cell? ⟨bp, 2, none⟩ = some (.slice (some ⟨ba, oa, none⟩) n ca) from fun W hW => ⟨(HPB.out W hW).1, (HPB.out W hW).2.1, (HPB.out W hW).2.2.1⟩)
  have HK1 := Lib.hid (show KQ W1 ((W1.alloc (.cells #[] 4)).drew) from ((Below.refl _ _).alloc (Nat.le_refl _) _).drew)
  have HL1 := Lib.hid (show Lst ((W1.alloc (.cells #[] 4)).drew) W1.heap.size 4 (.slice (some ⟨W1.heap.size, 0, none⟩) 0 0) [] from by
    have := Lst.empty W1 W1.heap.size 4 (Nat.le_refl _)
    exact this)
  have HK2 := Lib.hid (show KQ W1 (((W1.alloc (.cells #[] 4)).alloc (.cells #[Value.int .i64 0, .int .i64 0, .slice none 0 0, .slice none 0 0] 27)).drew) from (((Below.refl _ _).alloc (Nat.le_refl _) _).alloc (by rw [size_alloc']; omega) _).drew)
  have HL2 := Lib.hid (show Lst (((W1.alloc (.cells #[] 4)).alloc (.cells #[Value.int .i64 0, .int .i64 0, .slice none 0 0, .slice none 0 0] 27)).drew) W1.heap.size 4 (.slice (some ⟨W1.heap.size, 0, none⟩) 0 0) [] from by
    have := Lst.empty W1 W1.heap.size 4 (Nat.le_refl _)
    exact Lst.alloc this _)
  have HK3 := Lib.hid (show KQ W1 (((W1.alloc (.cells #[Value.int .i64 0, .int .i64 0, .slice none 0 0, .slice none 0 0] 27)).alloc (.cells #[] 4)).drew) from (((Below.refl _ _).alloc (Nat.le_refl _) _).alloc (by rw [size_alloc']; omega) _).drew)
  have HL3 := Lib.hid (show Lst (((W1.alloc (.cells #[Value.int .i64 0, .int .i64 0, .slice none 0 0, .slice none 0 0] 27)).alloc (.cells #[] 4)).drew) W1.heap.size 4 (.slice (some ⟨W1.heap.size + 1, 0, none⟩) 0 0) [] from by
    have := Lst.empty (W1.alloc (.cells #[Value.int .i64 0, .int .i64 0, .slice none 0 0, .slice none 0 0] 27)) W1.heap.size 4 (by rw [size_alloc']; omega)
    rw [size_alloc'] at this
    exact this)
  have HZ2 := Lib.hid (show ∀ w5, World.grownBy (((W1.alloc (.cells #[] 4)).alloc (.cells #[Value.int .i64 0, .int .i64 0, .slice none 0 0, .slice none 0 0] 27)).drew) w5 (Value.slice (some ⟨W1.heap.size, 0, none⟩) 0 0).ownBlock → w5.heap[W1.heap.size + 1]? = some (.cells #[Value.int .i64 0, .int .i64 0, .slice none 0 0, .slice none 0 0] 27 (0, 0)) from fun w5 hg => by
    have e : (W1.alloc (.cells #[] 4)).heap.size = W1.heap.size + 1 := size_alloc' _ _
    have h0 := heap_last (W1.alloc (.cells #[] 4)) (.cells #[Value.int .i64 0, .int .i64 0, .slice none 0 0, .slice none 0 0] 27)
    rw [e] at h0
    rw [hg.block (W1.heap.size + 1) (by show _ < ((W1.alloc _).alloc _).heap.size; rw [size_alloc', e]; omega) (fun e => by have e : some (W1.heap.size + 1) = some W1.heap.size := e; injection e with e; omega)]
    exact h0)
  have HZ3 := Lib.hid (show ∀ w5, World.grownBy (((W1.alloc (.cells #[Value.int .i64 0, .int .i64 0, .slice none 0 0, .slice none 0 0] 27)).alloc (.cells #[] 4)).drew) w5 (Value.slice (some ⟨W1.heap.size + 1, 0, none⟩) 0 0).ownBlock → w5.heap[W1.heap.size]? = some (.cells #[Value.int .i64 0, .int .i64 0, .slice none 0 0, .slice none 0 0] 27 (0, 0)) from fun w5 hg => by
    have h0 := heap_last W1 (.cells #[Value.int .i64 0, .int .i64 0, .slice none 0 0, .slice none 0 0] 27)
    rw [hg.block W1.heap.size (by show _ < ((W1.alloc _).alloc _).heap.size; rw [size_alloc', size_alloc']; omega) (fun e => by have e : some W1.heap.size = some (W1.heap.size + 1) := e; injection e with e; omega)]
    exact (Below.heap_alloc _ _ _ (by rw [size_alloc']; omega)).trans h0)
  have HAL := Lib.hid (show (r.accept.map Value.bool).length = n by rw [List.length_map]; exact HNN.out.symm)
  have HON := Lib.hid (show ∀ u ∈ r.accept.map Value.bool, u.oneCell' = true from fun u hu => by obtain ⟨b, -, rfl⟩ := List.mem_map.1 hu; rfl)
  obtain ⟨q0, q1, q2, q3⟩ := HPB.out W1 (Below.refl _ _)
  have hlb : bp < W1.heap.size := HLB.out
  go_cut [6] (fun v6 wx => ∃ (Z : Nat) (a5 : Option Addr) (c5 : Nat), v6 = .pointer (some ⟨Z, 0, none⟩) ∧ Bld wx W1.heap.size Z k1 st (.slice a5 n c5) (.slice none 0 0) [] [] (r.accept.map Value.bool) ∧ KQ W1 wx)
  case first =>
    -- {fast
    go_region_held3 (fun w' => w'.cell? ⟨bp, 0, none⟩ = some (.int .i64 k) ∧ w'.cell? ⟨bp, 1, none⟩ = some (.int .i64 st) ∧ w'.cell? ⟨bp, 2, none⟩ = some (.slice (some ⟨ba, oa, none⟩) n ca))
      (first | go_keep | exact HC3.out _ HK5.out | exact HC3.out _ ((((HK5.out.setCell (p := ⟨_, 0, none⟩) (by first | exact Nat.le_succ _ | exact Nat.le_refl _) _).setCell (p := ⟨_, 1, none⟩) (by first | exact Nat.le_succ _ | exact Nat.le_refl _) _).setCell (p := ⟨_, 2, none⟩) (by first | exact Nat.le_succ _ | exact Nat.le_refl _) _).setCell (p := ⟨_, 3, none⟩) (by first | exact Nat.le_succ _ | exact Nat.le_refl _) _))
      ((refine step_pushs rfl _ _ 22 (by rfl) 4 (.bool false) 1 Tryd.underlying22 info4 (by decide) (by decide) W1.heap.size _ [] (by first | exact HL1.out | exact HL2.out | exact HL3.out) (by first | exact KQ.size HK1.out | exact KQ.size HK2.out | exact KQ.size HK3.out) (r.accept.map Value.bool) HON.out (by rw [HAL.out]; simp; omega) (by rfl) ⟨ba, oa, none⟩ n ca (by rfl) HAL.out ha0 (by first | exact HNEW.out _ HK1.out | exact HNEW.out _ HK2.out | exact HNEW.out _ HK3.out) ?_
        intro v5 w5 hl5 hg5; rw [List.nil_append] at hl5; obtain ⟨a5, n5, cp5, rfl, HN5⟩ := hl5.shape'; obtain rfl : n5 = n := (HN5.out.trans HAL.out); have HL5 := Lib.hid hl5; have HG5 := Lib.hid hg5; have HK5 : Hid (KQ W1 w5) := (by first | exact Lib.hid (Below.grown HK1.out hg5 (KQ.size HK1.out) (fun q hq => HL1.out.ge hq)) | exact Lib.hid (Below.grown HK2.out hg5 (KQ.size HK2.out) (fun q hq => HL2.out.ge hq)) | exact Lib.hid (Below.grown HK3.out hg5 (KQ.size HK3.out) (fun q hq => HL3.out.ge hq))); obtain ⟨q60, q61, q62, q63⟩ := HPB.out w5 HK5.out; have l6 : bp < w5.heap.size := (by have := KQ.size HK5.out; have := HLB.out; omega); first | (have o5 := HZ2.out w5 hg5; have q50 := cells_get o5 0; have q51 := cells_get o5 1; have q52 := cells_get o5 2; have q53 := cells_get o5 3; have z50 := cells_free o5 0; have z51 := cells_free o5 1; have z52 := cells_free o5 2; have z53 := cells_free o5 3; have l5 := lt_of_block o5; simp at q50 q51 q52 q53; have HO5 := Lib.hid o5; clear o5) | (have o5 := HZ3.out w5 hg5; have q50 := cells_get o5 0; have q51 := cells_get o5 1; have q52 := cells_get o5 2; have q53 := cells_get o5 3; have z50 := cells_free o5 0; have z51 := cells_free o5 1; have z52 := cells_free o5 2; have z53 := cells_free o5 3; have l5 := lt_of_block o5; simp at q50 q51 q52 q53; have HO5 := Lib.hid o5; clear o5) | skip; clear hl5 hg5))
    all_goals
      go_wp2_with fail
      go_meet
      first
        | exact ⟨_, _, _, rfl, ⟨Own.nil _ _ _, Lst.alloc HL5.out _, Lst.nil _ _ _, heap_last _ _, KQ.size HK5.out⟩, Below.alloc HK5.out (KQ.size HK5.out) _⟩
        | exact ⟨_, _, _, rfl, Bld.boxed HO5.out (Nat.le_succ _) HL5.out, ((((HK5.out.setCell (p := ⟨_, 0, none⟩) (Nat.le_succ _) _).setCell (p := ⟨_, 1, none⟩) (Nat.le_succ _) _).setCell (p := ⟨_, 2, none⟩) (Nat.le_succ _) _).setCell (p := ⟨_, 3, none⟩) (Nat.le_succ _) _)⟩
        | exact ⟨_, _, _, rfl, Bld.boxed HO5.out (Nat.le_refl _) HL5.out, ((((HK5.out.setCell (p := ⟨_, 0, none⟩) (Nat.le_refl _) _).setCell (p := ⟨_, 1, none⟩) (Nat.le_refl _) _).setCell (p := ⟨_, 2, none⟩) (Nat.le_refl _) _).setCell (p := ⟨_, 3, none⟩) (Nat.le_refl _) _)⟩
    -- }fast
  case rest =>
    clear q0 q1 q2 q3 hlb HL1 HL2 HL3 HK1 HK2 HK3 HZ2 HZ3 HNEW HAC hna haa HC3
    obtain ⟨Z, a5, c5, rfl, hbld, hk5⟩ := hcut
    obtain ⟨N1, hN1⟩ : ∃ x, x = W1.heap.size := ⟨_, rfl⟩
    have HN1 := Lib.hid hN1
    rw [← hN1] at hbld
    have HD0 := Lib.hid hbld
    have HB0 := Lib.hid hk5
    clear hbld hk5 hN1
    have HW := Lib.hid (fun W => (show Calls Tryd.prog 32 #[.int .i64 k1] W (fun e w' => e = .returned (.int .i64 (m2 : Nat)) ∧ W = w') from by
      rw [HK1E.out, HM2.out, ← wide_eq HJ.out.1 HJ.out.2]
      exact wideAny _ (by have := HJ.out.1; omega) (by have := HJ.out.2; omega) W))
    have HWK := Lib.hid (fun W => (show Calls Tryd.prog 32 #[.int .i64 k] W (fun e w' => e = .returned (.int .i64 (m : Nat)) ∧ W = w') from by
      rw [HKR.out, HMM.out, ← wide_eq HOK.out.k0 HOK.out.k3]
      exact wideAny _ (by have := HOK.out.k0; omega) (by have := HOK.out.k3; omega) W))
    obtain ⟨nx, hnx'⟩ : ∃ f : Nat → Nat → Int, f = reN (toL r) (leftN j x) := ⟨_, rfl⟩
    have HNXE := Lib.hid hnx'
    have HNXI := Lib.hid (show ∀ i, i < n → ∀ c, c < m2 → leftN j x c ≤ m ∧ nx i c = ((if leftN j x c = m then i else ((toL r).nx.getD i []).getD (leftN j x c) 0 : Nat) : Int) from fun i hi c hc => by
      refine ⟨by rw [HMM.out]; exact HLF.out c (by rw [← HM2.out]; exact hc), ?_⟩
      rw [hnx', HMM.out]; rfl)
    have HPUT := Lib.hid (fun W c (hc : c < m2) => (show Calls Tryd.prog 33 #[.int .i64 c, .int .i64 k1, .int .i64 x] W (fun e w' => e = .returned (.int .i64 ((leftN j x c : Nat) : Int)) ∧ ∃ m, w' = W.drewN m) from by rw [HK1E.out]; exact leftS j x c HJ.out.2 (by omega) W))
    clear hnx'
    obtain ⟨ACC, hACC⟩ : ∃ x, x = r.accept.map Value.bool := ⟨_, rfl⟩
    rw [← hACC] at HD0
    have HACC := Lib.hid hACC
    clear hACC
    go_wp2_with fail
    go_loopw [7, 8, 9, 10] (fun sS _ _ _ wr => ∃ (i : Nat) (vn : Value) (items : List (Value × List Value)), i ≤ n ∧ sS = .int .i64 i ∧ Bld wr N1 Z k1 st (.slice a5 n c5) vn [] items ACC ∧
      items.map Prod.snd = (List.range i).map (fun s => tv m2 (nx s)) ∧ KQ W1 wr) (fun sS _ _ _ _ => n - (intOf sS).toNat)
    case atStart => exact ⟨0, _, [], Nat.zero_le _, rfl, HD0.out, rfl, HB0.out⟩
    case round =>
      obtain ⟨i, vn, items, hi, rfl, hbld, hit, hbel⟩ := hrel
      have HD := Lib.hid hbld
      have HI := Lib.hid hit
      have HB := Lib.hid hbel
      obtain ⟨q0, q1, q2, q3⟩ := HPB.out _ hbel
      have hlb : bp < wr.heap.size := Nat.lt_of_lt_of_le HLB.out hbel.size
      clear hbld hit hbel HD0 HB0
      by_cases hlt : i < n
      · obtain ⟨br, or, cr, hbr, hrc⟩ := HRC.out i hlt
        have HRI := Lib.hid hrc
        have HNX := Lib.hid (HNXI.out i hlt)
        obtain ⟨g, hg⟩ : ∃ g, g = wr.heap.size := ⟨_, rfl⟩
        have HNW := Lib.hid (show N1 ≤ wr.heap.size by rw [HN1.out]; exact HB.out.size)
        have HD1 := Lib.hid (show Bld (wr.alloc (.cells #[] 2)) N1 Z k1 st (.slice a5 n c5) vn [(.slice (some ⟨g, 0, none⟩) 0 0, tv 0 (nx i))] items ACC from by
          rw [hg]
          exact HD.out.addInt ((Below.refl _ _).alloc (Nat.le_refl _) _) (Lst.empty wr N1 2 HNW.out) (fun q hq => by cases hq; exact Nat.le_refl _))
        have HB1 := Lib.hid (show KQ W1 (wr.alloc (.cells #[] 2)) from Below.alloc HB.out HB.out.size _)
        clear hrc
        go_wp2_with fail
        rw [← hg]
        clear hg q0 q1 q2 q3 hlb
        go_loopw [8, 9, 10] (fun sR sC _ wr' => ∃ (c : Nat) (a9 : Option Addr) (cp9 : Nat), c ≤ m2 ∧ sC = .int .i64 c ∧ sR = .slice a9 c cp9 ∧ Bld wr' N1 Z k1 st (.slice a5 n c5) vn [(.slice a9 c cp9, tv c (nx i))] items ACC ∧ KQ W1 wr') (fun _ sC _ _ => m2 - (intOf sC).toNat)
        case atStart => exact ⟨0, _, _, Nat.zero_le _, rfl, rfl, HD1.out, HB1.out⟩
        case round =>
          obtain ⟨c, a9, cp9, hc, rfl, rfl, hbld, hbel⟩ := hrel
          have HD2 := Lib.hid hbld
          have HB2 := Lib.hid hbel
          obtain ⟨q0, q1, q2, q3⟩ := HPB.out _ hbel
          have hlb : bp < wr.heap.size := Nat.lt_of_lt_of_le HLB.out hbel.size
          have HSZ2 := Lib.hid (show N1 ≤ wr.heap.size by rw [HN1.out]; exact hbel.size)
          clear hbld hbel HD1 HB1
          by_cases hlc : c < m2
          · obtain ⟨hy, hxe⟩ := HNX.out c hlc
            obtain ⟨y, hyy⟩ : ∃ y, y = leftN j x c := ⟨_, rfl⟩
            have HPC := Lib.hid (fun W => HPUT.out W c hlc)
            rw [← hyy] at hy hxe HPC
            clear hyy
            by_cases hym : y = m
            · rw [if_pos hym] at hxe
              have HXE := Lib.hid hxe
              have hcmp : ((y : Int) == (m : Int)) = true := by simp [hym]
              clear hym hxe
              go_wp2_with (first
                | (go_at_call_of 32 k1; refine (HW.out _).mono ?_; rintro e w' ⟨rfl, rfl⟩)
                | (go_at_call_of 32 k; refine (HWK.out _).mono ?_; rintro e w' ⟨rfl, rfl⟩)
                | (go_at_call 33; refine (HPC.out _).mono ?_; rintro e w3 ⟨rfl, mm, hw3⟩; have HD3 : Hid (Bld w3 N1 Z k1 st (.slice a5 n c5) vn [(.slice a9 c cp9, tv c (nx i))] items ACC) := (by rw [hw3]; exact Lib.hid (HD2.out.drewN mm)); have HB3 : Hid (KQ W1 w3) := (by rw [hw3]; exact Lib.hid (below_drewN HB2.out mm)); have HSZ3 := Lib.hid (show N1 ≤ w3.heap.size by rw [HN1.out]; exact HB3.out.size); obtain ⟨p0, p1, p2, p3⟩ := HPB.out _ HB3.out; have lbp3 : bp < w3.heap.size := Nat.lt_of_lt_of_le HLB.out HB3.out.size; have lbr3 : br < w3.heap.size := Nat.lt_of_lt_of_le hbr HB3.out.size; have lbm3 : bm < w3.heap.size := (by have := HB3.out.size; omega); clear hw3)
                | (at_builtin; refine wpList_push rfl _ _ 52 rfl 2 (.int .i64 0) 8 Tryd.underlying52 info2 (by decide) (by decide) N1 (.slice a9 c cp9) _ (.int .i64 ((i : Nat))) (Own.get [] _ HD3.out.own) HSZ3.out rfl (by rw [tv_length]; omega) rfl _ rfl rfl ?_; intro v5 w5 hp5; obtain ⟨a6, n6, cp6, rfl, HN6⟩ := hp5.lst.shape'; have HE5 := Lib.hid (HD3.out.pushInt [] [] hp5); have HB5 := Lib.hid (Below.grown HB3.out hp5.grow HB3.out.size (fun q hq => by have := (Own.get [] _ HD3.out.own).ge hq; rw [← HN1.out]; exact this)); clear hp5))
              go_roundw
              case rel =>
                have h5 : n6 = c + 1 := by rw [HN6.out, List.length_append, tv_length]; rfl
                subst h5
                have h1 := HE5.out
                rw [← HXE.out, tv_snoc c (nx i)] at h1
                exact ⟨c + 1, _, _, hlc, by go_num, rfl, h1, HB5.out⟩
              case measure => simp [intOf]; omega
            · rw [if_neg hym] at hxe
              obtain ⟨z, hz⟩ : ∃ z : Nat, z = ((toL r).nx.getD i []).getD y 0 := ⟨_, rfl⟩
              rw [← hz] at hxe
              have HXE := Lib.hid hxe
              have hylt : y < m := by omega
              have HRX := Lib.hid (show ∀ W, KQ W1 W → W.cell? ⟨bm, om + i, none⟩ = some (.slice (some ⟨br, or, none⟩) m cr) ∧ W.cell? ⟨br, or + y, none⟩ = some (.int .i64 (z : Nat)) from fun W hW => ⟨(HRI.out W hW).1, by rw [(HRI.out W hW).2 y hylt, hz]⟩)
              have hcmp : ((y : Int) == (m : Int)) = false := by simp; omega
              clear hym hxe hz
              go_wp2_with (first
                | (go_at_call_of 32 k1; refine (HW.out _).mono ?_; rintro e w' ⟨rfl, rfl⟩)
                | (go_at_call_of 32 k; refine (HWK.out _).mono ?_; rintro e w' ⟨rfl, rfl⟩)
                | (go_at_call 33; refine (HPC.out _).mono ?_; rintro e w3 ⟨rfl, mm, hw3⟩; have HD3 : Hid (Bld w3 N1 Z k1 st (.slice a5 n c5) vn [(.slice a9 c cp9, tv c (nx i))] items ACC) := (by rw [hw3]; exact Lib.hid (HD2.out.drewN mm)); have HB3 : Hid (KQ W1 w3) := (by rw [hw3]; exact Lib.hid (below_drewN HB2.out mm)); have HSZ3 := Lib.hid (show N1 ≤ w3.heap.size by rw [HN1.out]; exact HB3.out.size); obtain ⟨p0, p1, p2, p3⟩ := HPB.out _ HB3.out; obtain ⟨y1, y2⟩ := HRX.out _ HB3.out; have lbp3 : bp < w3.heap.size := Nat.lt_of_lt_of_le HLB.out HB3.out.size; have lbr3 : br < w3.heap.size := Nat.lt_of_lt_of_le hbr HB3.out.size; have lbm3 : bm < w3.heap.size := (by have := HB3.out.size; omega); clear hw3)
                | (at_builtin; refine wpList_push rfl _ _ 52 rfl 2 (.int .i64 0) 8 Tryd.underlying52 info2 (by decide) (by decide) N1 (.slice a9 c cp9) _ (.int .i64 ((z : Nat))) (Own.get [] _ HD3.out.own) HSZ3.out rfl (by rw [tv_length]; omega) rfl _ rfl rfl ?_; intro v5 w5 hp5; obtain ⟨a6, n6, cp6, rfl, HN6⟩ := hp5.lst.shape'; have HE5 := Lib.hid (HD3.out.pushInt [] [] hp5); have HB5 := Lib.hid (Below.grown HB3.out hp5.grow HB3.out.size (fun q hq => by have := (Own.get [] _ HD3.out.own).ge hq; rw [← HN1.out]; exact this)); clear hp5))
              go_roundw
              case rel =>
                have h5 : n6 = c + 1 := by rw [HN6.out, List.length_append, tv_length]; rfl
                subst h5
                have h1 := HE5.out
                rw [← HXE.out, tv_snoc c (nx i)] at h1
                exact ⟨c + 1, _, _, hlc, by go_num, rfl, h1, HB5.out⟩
              case measure => simp [intOf]; omega
          · obtain rfl : c = m2 := by omega
            have HIL := Lib.hid (show (items.map Prod.fst).length ≤ 100000000 from by
              have := congrArg List.length HI.out
              rw [List.length_map, List.length_map, List.length_range] at this
              rw [List.length_map]; omega)
            have q3 := HD2.out.c3
            have hl4 := HD2.out.lt
            have z3 := cells_free HD2.out.at_ 3
            obtain ⟨a0, n0, c0, rfl, -⟩ := HD2.out.nxt.shape'
            go_wp2_with (first
              | (go_at_call 32; refine (HW.out _).mono ?_; rintro e w' ⟨rfl, rfl⟩)
              | (at_builtin; refine wpList_push rfl _ _ 23 rfl 52 (.slice none 0 0) 24 Tryd.underlying23 info54 (by decide) (by decide) N1 (.slice a0 n0 c0) _ (.slice a9 c cp9) HD2.out.nxt HSZ2.out rfl HIL.out rfl _ rfl rfl ?_; intro v5 w5 hp5; obtain ⟨a6, n6, cp6, rfl, HN6⟩ := hp5.lst.shape'; have o5 := HD2.out.obNext hp5; have q5 := (cells_get o5 3); have z5 := cells_free o5 3; have hl5 := (lt_of_block o5); have HE5 := Lib.hid (HD2.out.pushNext [] [] hp5); have HB5 := Lib.hid ((Below.grown HB2.out hp5.grow HB2.out.size (fun q hq => by have := HD2.out.nxt.ge hq; rw [← HN1.out]; exact this)).setCell (p := ⟨Z, 3, none⟩) (by rw [← HN1.out]; exact HD2.out.obB) (.slice a6 n6 cp6)); simp at q5; clear hp5 o5))
            go_roundw
            case rel =>
              have h1 := HE5.out
              rw [List.nil_append] at h1
              refine ⟨i + 1, _, _, by omega, by go_num, h1, ?_, HB5.out⟩
              rw [List.map_append, HI.out, List.range_succ, List.map_append]; rfl
            case measure => simp [intOf]; omega
      · obtain rfl : i = n := by omega
        have hAL : (toL r).acc.length = i := HNN.out.symm
        have HBU := Lib.hid (show Built wr N1 (.slice a5 i c5) vn r.accept (autN j i nx) from Built.of_bld HD.out HACC.out (by
          rw [HI.out]
          unfold autN
          rw [List.map_map, ← (show m2 = wide j from HM2.out)]
          refine List.map_congr_left fun s _ => ?_
          show tv m2 _ = List.map _ (List.map _ _)
          unfold tv; rw [List.map_map]; rfl))
        have HRP := Lib.hid (show RelPtr wr wr.heap.size Z (relOf (reL (toL r) j (leftN j x))) from by
          obtain ⟨va', vn', e, h1, h2⟩ := HBU.out.reads wr.heap.size (Nat.le_refl _) k1 st
          rw [reL_rel, hAL, ← HNXE.out]
          have e1 : st = ((toL r).start : Int) := HSR.out
          have e2 : k1 = ((j : Nat) : Int) := HK1E.out
          have e3 : r.accept = (toL r).acc := rfl
          refine ⟨.slice a5 i c5, vn, ?_, ?_, ?_, ?_, ?_, ?_⟩
          · rw [cells_get HD.out.at_]; show some (Value.int .i64 k1) = _; rw [e2]
          · rw [cells_get HD.out.at_]; show some (Value.int .i64 st) = _; rw [e1]
          · rw [cells_get HD.out.at_]; rfl
          · rw [cells_get HD.out.at_]; rfl
          · simp at e; rw [e.1]; exact h1
          · simp at e; rw [e.2]; exact h2)
        have HT := Lib.hid (SpecTidied.tidied (reL (toL r) j (leftN j x)) (HLOK.out) Z wr wr.heap.size HRP.out (Nat.le_refl _) HD.out.lt (by show (toL r).acc.length ≤ _; rw [hAL]; omega))
        rw [show (reL (toL r) j (leftN j x)).k = j from rfl] at HT
        have HKP := Lib.hid (show Kp w wr from Below.trans HK.out (HB.out.mono (Kp.size HK.out)))
        have HLB2 := Lib.hid (Kp.size HKP.out)
        have hZ := HD.out.lt
        clear hAL
        go_wp2_with fail
        refine HT.out.mono ?_
        rintro e w7 ⟨ra, rn, rfl, hbu, hb⟩
        have HK7 := Lib.hid (show Kp w w7 from Below.trans HKP.out (hb.mono HLB2.out))
        have HB7 := Lib.hid (show Built w7 (w.heap.size + 1) ra rn _ _ from hbu.mono HLB2.out)
        have hres := Kp.res HK7.out
        obtain ⟨a7, n7, c7, rfl, -⟩ := hbu.acc.shape'
        obtain ⟨items7, -, hnx7, -⟩ := hbu.rows
        obtain ⟨b7, m7, d7, rfl, -⟩ := hnx7.shape'
        have r0 := cells_get hres 0
        have r1 := cells_get hres 1
        have r2 := cells_get hres 2
        have r3 := cells_get hres 3
        have f0 := cells_free hres 0
        have f1 := cells_free hres 1
        have f2 := cells_free hres 2
        have f3 := cells_free hres 3
        have hlS := lt_of_block hres
        have p0 := cells_set hres 0 (.int .i64 (j : Nat))
        have p1 := cells_set p0 1 (.int .i64 0)
        have p2 := cells_set p1 2 (.slice a7 n7 c7)
        have p3 := cells_set p2 3 (.slice b7 m7 d7)
        simp at r0 r1 r2 r3 p3
        have g0 := cells_get p3 0
        have g1 := cells_get p3 1
        have g2 := cells_get p3 2
        have g3 := cells_get p3 3
        simp at g0 g1 g2 g3
        have HG := Lib.hid (And.intro g0 (And.intro g1 (And.intro g2 g3)))
        clear p0 p1 p2 p3 g0 g1 g2 g3 hres hbu hb hnx7
        go_wp2_with fail
        obtain ⟨g0, g1, g2, g3⟩ := HG.out
        refine bodyPost_ret (v := .agg #[.int .i64 (j : Nat), .int .i64 0, .slice a7 n7 c7, .slice b7 m7 d7]) (by simp [results, Tryd.results15, go_sem, g0, g1, g2, g3]) rfl ⟨.slice a7 n7 c7, .slice b7 m7 d7, rfl, ?_, ?_⟩
        · exact ((((HB7.out.setLow (a := ⟨w.heap.size, 0, none⟩) (Nat.lt_succ_self _) _).setLow (a := ⟨w.heap.size, 1, none⟩) (Nat.lt_succ_self _) _).setLow (a := ⟨w.heap.size, 2, none⟩) (Nat.lt_succ_self _) _).setLow (a := ⟨w.heap.size, 3, none⟩) (Nat.lt_succ_self _) _).mono (Nat.le_succ _)
        · have HBW := Kp.base HK7.out
          exact (((HBW.setCell (p := ⟨w.heap.size, 0, none⟩) (Nat.le_refl _) _).setCell (p := ⟨w.heap.size, 1, none⟩) (Nat.le_refl _) _).setCell (p := ⟨w.heap.size, 2, none⟩) (Nat.le_refl _) _).setCell (p := ⟨w.heap.size, 3, none⟩) (Nat.le_refl _) _
end Go.Proofs.YtaimealknkhfbaaDoor.AddedL
