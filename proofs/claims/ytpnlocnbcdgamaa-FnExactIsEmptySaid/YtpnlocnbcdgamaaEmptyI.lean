
/- What the program answers that is asked whether a relation has no tuples.
   Conditions: the relation is read as XMem's text says. -/
import Derived.Test.YtpnlocnbcdgamaaEmptyK
import Derived.Deep.RegionWith
namespace Go.Proofs.Ytpnlocnbcdgamaa.EmptyI
set_option linter.unusedVariables false
set_option linter.unusedSimpArgs false
set_option linter.ambiguousOpen false
set_option maxRecDepth 100000
open Go.RowKit Mem Copy Rel Valid Heap Columns Bld ToL TidyMath TidyClass TidyAuto TidyRight SpecFiner SpecRight PairMath First FirstTidy FirstI FirstK Alike EqI EmptyK

set_option maxHeartbeats 4000000 in
theorem noTuples (k : Nat) (h1 : 1 ≤ k) (h3 : k ≤ 3) (w : World) :
    Calls Try.prog 43 #[.int .i64 k] w fun e w' => ∃ va vn, e = .returned (.agg #[.int .i64 k, .int .i64 0, va, vn]) ∧ Built w' w.heap.size va vn [false] [ofN (List.replicate (wide k) 0)] ∧ Below w.heap.size w w' := by
  have HCN := Lib.hid (fun W => countAny (k : Int) (by omega) (by omega) W)
  rw [wide_eq h1 h3] at HCN
  have hwc := wide_cases h1 h3
  obtain ⟨n, hn⟩ : ∃ n, n = wide k := ⟨_, rfl⟩
  rw [← hn] at HCN hwc ⊢
  have hn26 : n ≤ 26 := by omega
  have hmk := run_make_row' (P := Try.prog) 50 2 (.int .i64 0) 8 Try.underlying50 info2 rfl .i64 .i64 n (by omega) (by omega)
  have HB := Lib.hid (fun (c : Array Value) => show Built ((((w.alloc (.cells c 29)).alloc (.cells (madeCells #[Value.int .i64 0] n) 2)).alloc (.cells #[.bool false] 4)).alloc (.cells #[.slice (some ⟨w.heap.size + 1, 0, none⟩) n n] 50)) (w.heap.size + 1) (.slice (some ⟨w.heap.size + 1 + 1, 0, none⟩) 1 1) (.slice (some ⟨w.heap.size + 1 + 1 + 1, 0, none⟩) 1 1) [false] [ofN (List.replicate n 0)] from by
    have s0 : (w.alloc (.cells c 29)).heap.size = w.heap.size + 1 := by rw [size_alloc']
    have m1 := Heap.Lst.made (w.alloc (.cells c 29)) (w.heap.size + 1) 2 (.int .i64 0) n (by omega) (by unfold maxLen; omega)
    rw [s0] at m1
    have m2 := Heap.Lst.one ((w.alloc (.cells c 29)).alloc (.cells (madeCells #[Value.int .i64 0] n) 2)) (w.heap.size + 1) 4 (.bool false) (by rw [size_alloc']; omega)
    rw [size_alloc', s0] at m2
    have m3 := Heap.Lst.one (((w.alloc (.cells c 29)).alloc (.cells (madeCells #[Value.int .i64 0] n) 2)).alloc (.cells #[.bool false] 4)) (w.heap.size + 1) 50 (.slice (some ⟨w.heap.size + 1, 0, none⟩) n n) (by rw [size_alloc', size_alloc']; omega)
    rw [size_alloc', size_alloc', s0] at m3
    refine ⟨m2.alloc _, [(.slice (some ⟨w.heap.size + 1, 0, none⟩) n n, List.replicate n (.int .i64 0))], Own.add (Own.nil _ _ _) ((m1.alloc _).alloc _) (fun p hp => by cases hp), m3, ?_⟩
    simp [ofN])
  have HBL := Lib.hid (fun (c : Array Value) => show Below w.heap.size w ((((w.alloc (.cells c 29)).alloc (.cells (madeCells #[Value.int .i64 0] n) 2)).alloc (.cells #[.bool false] 4)).alloc (.cells #[.slice (some ⟨w.heap.size + 1, 0, none⟩) n n] 50)) from by
    have s0 : (w.alloc (.cells c 29)).heap.size = w.heap.size + 1 := by rw [size_alloc']
    have b0 : Below w.heap.size w (w.alloc (.cells c 29)) := (Below.refl _ _).alloc (Nat.le_refl _) _
    refine Below.alloc (Below.alloc (Below.alloc b0 ?_ _) ?_ _) ?_ _
    all_goals (first | omega | (simp only [size_alloc']; omega)))
  have HRES := Lib.hid (fun (c : Array Value) => show ((((w.alloc (.cells c 29)).alloc (.cells (madeCells #[Value.int .i64 0] n) 2)).alloc (.cells #[.bool false] 4)).alloc (.cells #[.slice (some ⟨w.heap.size + 1, 0, none⟩) n n] 50)).heap[w.heap.size]? = some (.cells c 29 (0, 0)) from by
    have s0 : (w.alloc (.cells c 29)).heap.size = w.heap.size + 1 := by rw [size_alloc']
    rw [Below.heap_alloc _ _ _ (by simp only [size_alloc']; omega), Below.heap_alloc _ _ _ (by simp only [size_alloc']; omega), Below.heap_alloc _ _ _ (by omega)]
    exact heap_alloc_new _ _)
  have HRES := Lib.hid (HRES.out #[Value.int .i64 0, .int .i64 0, .slice none 0 0, .slice none 0 0])
  clear hn hwc
  go_enter Try.func43, Try.ntmps43
  go_upto_region 2 with (go_at_call 56; refine (HCN.out _).mono ?_; rintro e w' ⟨rfl, rfl⟩)
  have r0 := cells_get HRES.out 0
  have r1 := cells_get HRES.out 1
  have r2 := cells_get HRES.out 2
  have r3 := cells_get HRES.out 3
  have f0 := cells_free HRES.out 0
  have f1 := cells_free HRES.out 1
  have f2 := cells_free HRES.out 2
  have f3 := cells_free HRES.out 3
  have hlS := lt_of_block HRES.out
  have p0 := cells_set HRES.out 0 (.int .i64 k)
  have p1 := cells_set p0 1 (.int .i64 0)
  have p2 := cells_set p1 2 (.slice (some ⟨w.heap.size + 1 + 1, 0, none⟩) 1 1)
  have p3 := cells_set p2 3 (.slice (some ⟨w.heap.size + 1 + 1 + 1, 0, none⟩) 1 1)
  simp at r0 r1 r2 r3 p3
  have g0 := cells_get p3 0
  have g1 := cells_get p3 1
  have g2 := cells_get p3 2
  have g3 := cells_get p3 3
  simp at g0 g1 g2 g3
  have HG := Lib.hid (And.intro g0 (And.intro g1 (And.intro g2 g3)))
  clear p0 p1 p2 p3 g0 g1 g2 g3
  go_wp2_with fail
  obtain ⟨g0, g1, g2, g3⟩ := HG.out
  refine bodyPost_ret (v := .agg #[.int .i64 k, .int .i64 0, .slice (some ⟨w.heap.size + 1 + 1, 0, none⟩) 1 1, .slice (some ⟨w.heap.size + 1 + 1 + 1, 0, none⟩) 1 1]) (by simp [results, Try.results43, go_sem, g0, g1, g2, g3]) rfl ⟨_, _, rfl, ?_, ?_⟩
  · exact (HB.out _).mono (Nat.le_succ _)
  · exact HBL.out _

def E1 (w : World) (c : Array Value) (W : World) : Prop := Below (w.heap.size + 1) (w.alloc (.cells c 29)) W
theorem E1.size {w W : World} {c : Array Value} (h : E1 w c W) : w.heap.size + 1 ≤ W.heap.size := by have := Below.size h; rwa [size_alloc'] at this
theorem E1.base {w W : World} {c : Array Value} (h : E1 w c W) : Below w.heap.size w W := ((Below.refl _ _).alloc (Nat.le_refl _) _).trans (Below.mono h (Nat.le_succ _))
theorem E1.box {w W : World} {c : Array Value} (h : E1 w c W) : W.heap[w.heap.size]? = some (.cells c 29 (0, 0)) := (Below.block h _ (Nat.lt_succ_self _)).trans (heap_alloc_new _ _)
theorem E1.go {w W W' : World} {c : Array Value} (h : E1 w c W) (hb : Below W.heap.size W W') : E1 w c W' := Below.trans h (hb.mono (E1.size h))
theorem E1.drew {w W : World} {c : Array Value} (h : E1 w c W) : E1 w c W.drew := below_drewN h 1

set_option maxHeartbeats 8000000 in
theorem emptyI (v : Value) (r : R) (w : World) (B : Nat) (h : RelAt w B v r) (hB : B ≤ w.heap.size) :
    Calls Try.prog 22 #[v] w fun e w' => e = .returned (.tuple #[.bool (emptyV r), .int .i64 (emptyC r)]) ∧ Below w.heap.size w w' := by
  have HV1 := Lib.hid (fun W (hb : Below w.heap.size w W) => ValidImpl.implValid v r W B (h.below hb hB) (Nat.le_trans hB hb.size))
  have HE0 := Lib.hid (show okB r = false → emptyV r = false ∧ emptyC r = 1 from fun h => by simp [emptyV, emptyC, h])
  have HE1 := Lib.hid (show okB r = true → emptyC r = 0 from fun h => by simp [emptyC, h])
  have HEQ := Lib.hid (fun (h0 : okB r = true) (k : Nat) (hk : r.tapes = (k : Int)) (h1 : 1 ≤ k) (h3 : k ≤ 3) W u (hb : Below w.heap.size w W) (hu : RelAt W W.heap.size u (relOf (noL k))) => show Calls Try.prog 11 #[v, u] W fun e w' => e = .returned (.tuple #[.bool (emptyV r), .int .i64 0]) ∧ Below W.heap.size W w' from by
    have e := eq_no h0 hk h1 h3
    have := areEqualI v u r (relOf (noL k)) W W.heap.size ((h.below hb hB).mono (Nat.le_trans hB hb.size)) hu (Nat.le_refl _)
    rwa [e.1, e.2] at this)
  have HKK := Lib.hid (fun (h0 : okB r = true) => r_k h0)
  obtain ⟨V, hV⟩ : ∃ x, x = emptyV r := ⟨_, rfl⟩
  obtain ⟨C, hC⟩ : ∃ x, x = emptyC r := ⟨_, rfl⟩
  obtain ⟨q, hq⟩ : ∃ x, x = okB r := ⟨_, rfl⟩
  rw [← hV] at HE0 HEQ
  rw [← hC] at HE0 HE1
  rw [← hq] at HV1 HE0 HE1 HEQ HKK
  rw [← hV, ← hC]
  clear hV hC hq
  obtain ⟨va, vn, rfl, ha, hn⟩ := h
  obtain ⟨aa1, ba, oa, ca1, rfl, -, -, -⟩ := ha
  obtain ⟨-, ⟨ab1, bb, ob, cb1, rfl, -, -, -⟩, -⟩ := hn
  obtain ⟨k1, hk⟩ : ∃ x, x = r.tapes := ⟨_, rfl⟩
  obtain ⟨st1, hst⟩ : ∃ x, x = r.start := ⟨_, rfl⟩
  obtain ⟨na1, hna⟩ : ∃ x, x = r.accept.length := ⟨_, rfl⟩
  obtain ⟨nb1, hnb⟩ : ∃ x, x = r.next.length := ⟨_, rfl⟩
  rw [← hk, ← hst, ← hna, ← hnb] at HV1 HEQ
  rw [← hk] at HKK
  rw [← hk, ← hst, ← hna, ← hnb]
  clear hk hst hna hnb
  have HC1 := Lib.hid (HV1.out (w.alloc (.cells #[.int .i64 k1, .int .i64 st1, .slice aa1 na1 ca1, .slice ab1 nb1 cb1] 29)) ((Below.refl _ _).alloc (Nat.le_refl _) _))
  clear HV1 hB
  go_enter Try.func22, Try.ntmps22
  go_wp2_with fail
  refine HC1.out.mono ?_
  rintro e w3 ⟨rfl, hb3⟩
  rw [size_alloc'] at hb3
  have HK3 := Lib.hid (show E1 w #[.int .i64 k1, .int .i64 st1, .slice aa1 na1 ca1, .slice ab1 nb1 cb1] w3 from hb3)
  clear hb3 HC1
  cases q with
  | false =>
    obtain ⟨rfl, rfl⟩ := HE0.out rfl
    clear HE0 HE1 HEQ HKK
    go_wp2_with fail
    go_ret2
    exact ⟨rfl, E1.base HK3.out⟩
  | true =>
    obtain rfl := HE1.out rfl
    obtain ⟨k, rfl, hk1, hk3, -⟩ := HKK.out rfl
    have HNT := Lib.hid (fun W => noTuples k hk1 hk3 W)
    have HEA := Lib.hid (HEQ.out rfl k rfl hk1 hk3)
    clear HE0 HE1 HEQ HKK
    have x0 := cells_get (E1.box HK3.out) 0
    have x1 := cells_get (E1.box HK3.out) 1
    have x2 := cells_get (E1.box HK3.out) 2
    have x3 := cells_get (E1.box HK3.out) 3
    simp at x0 x1 x2 x3
    have hl := E1.size HK3.out
    go_wp2_with fail
    go_region_with (first
      | (go_at_call 43; refine (HNT.out _).mono ?_; rintro e w4 ⟨va4, vn4, rfl, hbu, hb4⟩; have HK4 := Lib.hid (E1.go (E1.drew HK3.out) hb4); have HR4 := Lib.hid (hbu.reads w4.heap.size (Nat.le_refl _) (k : Int) 0); clear hbu hb4; clear x0 x1 x2 x3 hl; have x0 := cells_get (E1.box HK4.out) 0; have x1 := cells_get (E1.box HK4.out) 1; have x2 := cells_get (E1.box HK4.out) 2; have x3 := cells_get (E1.box HK4.out) 3; simp at x0 x1 x2 x3; have hl := E1.size HK4.out)
      | (go_at_call 11; refine (HEA.out _ _ (E1.base HK4.out) HR4.out).mono ?_; rintro e w5 ⟨rfl, hb5⟩; have HB5 := Lib.hid ((E1.base HK4.out).trans (hb5.mono (E1.base HK4.out).size)); clear hb5))
    all_goals go_wp2
    all_goals go_ret2
    all_goals exact ⟨rfl, HB5.out⟩
end Go.Proofs.Ytpnlocnbcdgamaa.EmptyI
