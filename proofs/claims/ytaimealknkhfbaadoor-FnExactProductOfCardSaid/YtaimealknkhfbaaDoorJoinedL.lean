
/- What the model's l02Joined answers, of relations that may be of many states.
   Conditions: stated at the theorem. -/
import Derived.Test.YtaimealknkhfbaaDoorRB30
namespace Go.Proofs.YtaimealknkhfbaaDoor.JoinedL
set_option linter.unusedVariables false
set_option linter.unusedSimpArgs false
set_option linter.ambiguousOpen false
set_option maxRecDepth 100000
open Go.RowKit Mem Copy Rel Valid Heap Columns Bld TidyMath TidyAuto TidyRight SpecFiner SpecRight SpecTidied SpecTold ToL SpecTidyRel ImplTidied PairMath PairsI JoinI TwoImpl ResKit TwoSpec

set_option maxHeartbeats 16000000 in
theorem joinedL (t : Bool → Bool → Bool) (way : Int) (hP : PairsC t way) (l m : L) (hl : l.Ok) (hm : m.Ok) (hk : l.k = m.k) (hnl : l.acc.length ≤ 100000) (hnm : m.acc.length ≤ 100000) (hA1 : (tidyAcc l).length ≤ 1201) (hA2 : (tidyAcc m).length ≤ 1201) (bp bq : Nat) (w : World) (B : Nat) (h : RelPtr w B bp (relOf l)) (h' : RelPtr w B bq (relOf m)) (hB : B ≤ w.heap.size) (hbp : bp < w.heap.size) (hbq : bq < w.heap.size) :
    Calls Tryd.prog 16 #[.pointer (some ⟨bp, 0, none⟩), .pointer (some ⟨bq, 0, none⟩), .int .i64 way] w fun e w' => ∃ va vn, e = .returned (.tuple #[.agg #[.int .i64 (joinK t l m), .int .i64 0, va, vn], .int .i64 (if joinB t l m = true then 0 else 3)]) ∧ Built w' w.heap.size va vn (joinA t l m) (joinN t l m) ∧ Below w.heap.size w w' := by
  have HT1 := Lib.hid (tidied l hl bp (w.alloc (.cells #[Value.int .i64 0, .int .i64 0, .slice none 0 0, .slice none 0 0] 27)) B (h.below ((Below.refl _ _).alloc (Nat.le_refl _) _) hB hbp) (by rw [size_alloc']; omega) (by rw [size_alloc']; omega) (by omega))
  have HT2 := Lib.hid (fun W (hb : Below w.heap.size w W) => tidied m hm bq W B (h'.below hb hB hbq) (Nat.le_trans hB hb.size) (Nat.lt_of_lt_of_le hbq hb.size) (by omega))
  have hj1 := pairL_ok t (tidL_ok hl) (tidL_ok hm) hk
  have HP1 := Lib.hid (fun W X Y (h1 : RelPtr W W.heap.size X ⟨l.k, 0, tidyAcc l, tidyNext l⟩) (h2 : RelPtr W W.heap.size Y ⟨m.k, 0, tidyAcc m, tidyNext m⟩) (hX : X < W.heap.size) (hY : Y < W.heap.size) (hle : (tidyAcc l).length * (tidyAcc m).length ≤ 1000) => hP (tidL l) (tidL m) (tidL_ok hl) (tidL_ok hm) hk X Y W W.heap.size (by rw [tidL_rel]; exact h1) (by rw [tidL_rel]; exact h2) (Nat.le_refl _) hX hY hle)
  have hjlen : (joinL t l m).acc.length = (tidyAcc l).length * (tidyAcc m).length := pairL_len t (tidL l) (tidL m)
  have HT3 := Lib.hid (fun (hle : (tidyAcc l).length * (tidyAcc m).length ≤ 1000) W X (h1 : RelPtr W W.heap.size X (relOf (joinL t l m))) (hX : X < W.heap.size) => tidied (joinL t l m) hj1 X W W.heap.size h1 (Nat.le_refl _) hX (by omega))
  have HTO := Lib.hid (fun (hle : (tidyAcc l).length * (tidyAcc m).length ≤ 1000) k aa ab n ca nb cb W C (hk : k = ((joinL t l m).k : Int)) (hn : n = (tidyAcc (joinL t l m)).length) (hbu : Built W C (.slice aa n ca) (.slice ab nb cb) (tidyAcc (joinL t l m)) (tidyNext (joinL t l m))) => show Calls Tryd.prog 35 #[.agg #[.int .i64 k, .int .i64 0, .slice aa n ca, .slice ab nb cb]] W fun e w' => ∃ va vn, e = .returned (.tuple #[.agg #[.int .i64 (joinK t l m), .int .i64 0, va, vn], .int .i64 (if joinB t l m = true then 0 else 3)]) ∧ Built w' C va vn (joinA t l m) (joinN t l m) ∧ Below W.heap.size W w' from by
    obtain ⟨e1, e2, e3, e4⟩ := join_few (t := t) hle
    rw [e1, e2, e3, e4]
    exact toldI (joinL t l m) k aa ab n ca nb cb W C hk hn (by rw [hn]; have := tidyAcc_len (l := joinL t l m) hj1; omega) hbu)
  have HNO := Lib.hid (fun hle : ¬ (tidyAcc l).length * (tidyAcc m).length ≤ 1000 => show (if joinB t l m = true then (0 : Int) else 3) = 3 ∧ joinK t l m = 0 ∧ joinA t l m = [] ∧ joinN t l m = [] from by
    have e := join_many (t := t) hle
    obtain ⟨e1, e2, e3⟩ := join_no e
    rw [e]; exact ⟨rfl, e1, e2, e3⟩)
  obtain ⟨C, hC⟩ : ∃ x : Int, x = if joinB t l m = true then 0 else 3 := ⟨_, rfl⟩
  obtain ⟨K, hK⟩ : ∃ x, x = joinK t l m := ⟨_, rfl⟩
  obtain ⟨A, hA⟩ : ∃ x, x = joinA t l m := ⟨_, rfl⟩
  obtain ⟨N, hN⟩ : ∃ x, x = joinN t l m := ⟨_, rfl⟩
  rw [← hC, ← hK, ← hA, ← hN] at HTO HNO
  rw [← hC, ← hK, ← hA, ← hN]
  clear hC hK hA hN
  obtain ⟨PK, hPK⟩ : ∃ x : Nat, x = (pairL t (tidL l) (tidL m)).k := ⟨_, rfl⟩
  obtain ⟨PS, hPS⟩ : ∃ x : Nat, x = (pairL t (tidL l) (tidL m)).start := ⟨_, rfl⟩
  obtain ⟨PA, hPA⟩ : ∃ x, x = (pairL t (tidL l) (tidL m)).acc := ⟨_, rfl⟩
  obtain ⟨PN, hPN⟩ : ∃ x, x = (relOf (pairL t (tidL l) (tidL m))).next := ⟨_, rfl⟩
  rw [← hPK, ← hPS, ← hPA, ← hPN] at HP1
  have HJR := Lib.hid (show relOf (joinL t l m) = ⟨PK, PS, PA, PN⟩ from by rw [hPK, hPS, hPA, hPN]; rfl)
  have HJK := Lib.hid (show ((joinL t l m).k : Int) = PK from by rw [hPK]; rfl)
  rw [HJR.out, HJK.out] at HT3
  rw [HJK.out] at HTO
  obtain ⟨JA, hJA⟩ : ∃ x, x = tidyAcc (joinL t l m) := ⟨_, rfl⟩
  obtain ⟨JN, hJN⟩ : ∃ x, x = tidyNext (joinL t l m) := ⟨_, rfl⟩
  rw [← hJA, ← hJN] at HT3 HTO
  obtain ⟨K1, hK1⟩ : ∃ x : Int, x = l.k := ⟨_, rfl⟩
  obtain ⟨K2, hK2⟩ : ∃ x : Int, x = m.k := ⟨_, rfl⟩
  obtain ⟨A1, hA1'⟩ : ∃ x, x = tidyAcc l := ⟨_, rfl⟩
  obtain ⟨A2, hA2'⟩ : ∃ x, x = tidyAcc m := ⟨_, rfl⟩
  obtain ⟨N1, hN1⟩ : ∃ x, x = tidyNext l := ⟨_, rfl⟩
  obtain ⟨N2, hN2⟩ : ∃ x, x = tidyNext m := ⟨_, rfl⟩
  rw [← hK1, ← hA1', ← hN1] at HT1
  rw [← hK2, ← hA2', ← hN2] at HT2
  rw [← hK1, ← hK2, ← hA1', ← hA2', ← hN1, ← hN2] at HP1
  rw [← hA1', ← hA2'] at HT3 HTO HNO
  rw [← hA1'] at hA1
  rw [← hA2'] at hA2
  rw [size_alloc'] at HT1
  clear HJR HJK hPK hPS hPA hPN hJA hJN hK1 hK2 hA1' hA2' hN1 hN2 hj1 hjlen hP hl hm hk hnl hnm h h' hB hbp hbq
  go_enter Tryd.func16, Tryd.ntmps16
  go_wp2_with fail
  refine HT1.out.mono ?_
  rintro e w3 ⟨va, vn, rfl, hbu, hb3⟩
  have HK3 := Lib.hid (show Kp w w3 from hb3)
  have HBU3 := Lib.hid hbu
  obtain ⟨a3, n3, c3, rfl, hn3⟩ := hbu.acc.shape'
  obtain ⟨items3, -, hnx3, -⟩ := hbu.rows
  obtain ⟨b3, m3, d3, rfl, -⟩ := hnx3.shape'
  have HN3 := Lib.hid (show n3 = A1.length from by rw [hn3.out, List.length_map])
  have HC2 := Lib.hid (HT2.out (w3.alloc (.cells #[.int .i64 K1, .int .i64 0, .slice a3 n3 c3, .slice b3 m3 d3] 27)) ((Kp.base HK3.out).alloc (by have := Kp.size HK3.out; omega) _))
  have hs3 := Kp.size HK3.out
  clear hbu hb3 hnx3 hn3 HT1 HT2
  go_wp2_with fail
  refine HC2.out.mono ?_
  rintro e w5 ⟨va, vn, rfl, hbu, hb5⟩
  have hs5 := hb5.size
  rw [size_alloc'] at hbu hb5 hs5
  have HBU5 := Lib.hid hbu
  have HLB := Lib.hid (show w5.heap[w3.heap.size]? = some (.cells #[.int .i64 K1, .int .i64 0, .slice a3 n3 c3, .slice b3 m3 d3] 27 (0, 0)) from (hb5.block _ (Nat.lt_succ_self _)).trans (heap_alloc_new _ _))
  have HB35 := Lib.hid (show Below w3.heap.size w3 w5 from ((Below.refl _ _).alloc (Nat.le_refl _) _).trans (hb5.mono (Nat.le_succ _)))
  have HK5 := Lib.hid (show Kp w w5 from Below.trans HK3.out (HB35.out.mono (Kp.size HK3.out)))
  have HS35 := Lib.hid (show w3.heap.size < w5.heap.size from hs5)
  obtain ⟨a5, n5, c5, rfl, hn5⟩ := hbu.acc.shape'
  obtain ⟨items5, -, hnx5, -⟩ := hbu.rows
  obtain ⟨b5, m5, d5, rfl, -⟩ := hnx5.shape'
  have HN5 := Lib.hid (show n5 = A2.length from by rw [hn5.out, List.length_map])
  have hl3b := lt_of_block HLB.out
  have l2 := cells_get HLB.out 2
  simp at l2
  have hm3a : n3 ≤ 1201 := by rw [HN3.out]; exact hA1
  have hm5a : n5 ≤ 1201 := by rw [HN5.out]; exact hA2
  obtain ⟨P, hP⟩ : ∃ P, P = n3 * n5 := ⟨_, rfl⟩
  have hPm : P ≤ 1442401 := by rw [hP]; exact Nat.mul_le_mul hm3a hm5a
  have hmul : (n3 : Int) * (n5 : Int) = (P : Int) := by rw [hP]; exact (Int.natCast_mul n3 n5).symm
  have hwP : IntKind.i64.wrap (P : Int) = (P : Int) := by rw [IntKind.wrap_i64]; omega
  have HP := Lib.hid (show P = A1.length * A2.length from by rw [hP, HN3.out, HN5.out])
  clear hP hbu hb5 hnx5 hn5 HC2
  by_cases hle : P ≤ 1000
  · have hle' := hle
    rw [HP.out] at hle'
    have HLE := Lib.hid hle'
    have HLB6 := Lib.hid (show (w5.alloc (.cells #[.int .i64 K2, .int .i64 0, .slice a5 n5 c5, .slice b5 m5 d5] 27)).heap[w3.heap.size]? = some (.cells #[.int .i64 K1, .int .i64 0, .slice a3 n3 c3, .slice b3 m3 d3] 27 (0, 0)) from (Below.heap_alloc _ _ _ HS35.out).trans HLB.out)
    have HB5A := Lib.hid (show Below w5.heap.size w5 (w5.alloc (.cells #[.int .i64 K2, .int .i64 0, .slice a5 n5 c5, .slice b5 m5 d5] 27)) from (Below.refl _ _).alloc (Nat.le_refl _) _)
    have HC3 := Lib.hid (HP1.out (w5.alloc (.cells #[.int .i64 K2, .int .i64 0, .slice a5 n5 c5, .slice b5 m5 d5] 27)) w3.heap.size w5.heap.size (built_ptr (HBU3.out.below (HB35.out.trans (HB5A.out.mono HB35.out.size))) HLB6.out) (built_ptr (HBU5.out.below HB5A.out) (heap_alloc_new _ _)) (by rw [size_alloc']; have := HS35.out; omega) (by rw [size_alloc']; exact Nat.lt_succ_self _) hle')
    have HKA := Lib.hid (show Kp w (w5.alloc (.cells #[.int .i64 K2, .int .i64 0, .slice a5 n5 c5, .slice b5 m5 d5] 27)) from Below.alloc HK5.out (Kp.size HK5.out) _)
    clear hle' HP1 HNO
    go_wp2_with fail
    refine HC3.out.mono ?_
    rintro e w7 ⟨va, vn, rfl, hbu, hb7⟩
    have HK7 := Lib.hid (show Kp w w7 from Below.trans HKA.out (hb7.mono (Kp.size HKA.out)))
    have HBU7 := Lib.hid hbu
    obtain ⟨a7, n7, c7, rfl, hn7⟩ := hbu.acc.shape'
    obtain ⟨items7, -, hnx7, -⟩ := hbu.rows
    obtain ⟨b7, m7, d7, rfl, -⟩ := hnx7.shape'
    have HC4 := Lib.hid (HT3.out HLE.out (w7.alloc (.cells #[.int .i64 PK, .int .i64 PS, .slice a7 n7 c7, .slice b7 m7 d7] 27)) w7.heap.size (built_ptr (HBU7.out.below ((Below.refl _ _).alloc (Nat.le_refl _) _)) (heap_alloc_new _ _)) (by rw [size_alloc']; exact Nat.lt_succ_self _))
    have HK8 := Lib.hid (show Kp w (w7.alloc (.cells #[.int .i64 PK, .int .i64 PS, .slice a7 n7 c7, .slice b7 m7 d7] 27)) from Below.alloc HK7.out (Kp.size HK7.out) _)
    clear hbu hb7 hnx7 hn7 HC3 HT3 l2
    go_wp2_with fail
    refine HC4.out.mono ?_
    rintro e w9 ⟨va, vn, rfl, hbu, hb9⟩
    have HK9 := Lib.hid (show Kp w w9 from Below.trans HK8.out (hb9.mono (Kp.size HK8.out)))
    have HBU9 := Lib.hid hbu
    obtain ⟨a9, n9, c9, rfl, hn9⟩ := hbu.acc.shape'
    obtain ⟨items9, -, hnx9, -⟩ := hbu.rows
    obtain ⟨b9, m9, d9, rfl, -⟩ := hnx9.shape'
    have HC5 := Lib.hid (HTO.out HLE.out _ a9 b9 n9 c9 m9 d9 w9 _ rfl (by rw [hn9.out, List.length_map]) HBU9.out)
    clear hbu hb9 hnx9 hn9 HC4 HTO
    go_wp2_with fail
    refine HC5.out.mono ?_
    rintro e w10 ⟨va, vn, rfl, hbu, hb10⟩
    have HK10 := Lib.hid (show Kp w w10 from Below.trans HK9.out (hb10.mono (Kp.size HK9.out)))
    have HBU := Lib.hid (show Built w10 (w.heap.size + 1) va vn A N from hbu.mono (Kp.size HK8.out))
    obtain ⟨a1, n1, c1, rfl, hn1⟩ := hbu.acc.shape'
    obtain ⟨items1, -, hnx1, -⟩ := hbu.rows
    obtain ⟨b1, m1, d1, rfl, -⟩ := hnx1.shape'
    have hres := Kp.res HK10.out
    clear hbu hb10 hnx1 hn1 HC5
    have r0 := cells_get hres 0
    have r1 := cells_get hres 1
    have r2 := cells_get hres 2
    have r3 := cells_get hres 3
    have f0 := cells_free hres 0
    have f1 := cells_free hres 1
    have f2 := cells_free hres 2
    have f3 := cells_free hres 3
    have hlS := lt_of_block hres
    have p0 := cells_set hres 0 (.int .i64 K)
    have p1 := cells_set p0 1 (.int .i64 0)
    have p2 := cells_set p1 2 (.slice a1 n1 c1)
    have p3 := cells_set p2 3 (.slice b1 m1 d1)
    simp at r0 r1 r2 r3 p3
    have g0 := cells_get p3 0
    have g1 := cells_get p3 1
    have g2 := cells_get p3 2
    have g3 := cells_get p3 3
    simp at g0 g1 g2 g3
    have HG := Lib.hid (And.intro g0 (And.intro g1 (And.intro g2 g3)))
    clear p0 p1 p2 p3 g0 g1 g2 g3 hres
    go_wp2_with fail
    obtain ⟨g0, g1, g2, g3⟩ := HG.out
    refine bodyPost_ret (v := .tuple #[.agg #[.int .i64 K, .int .i64 0, .slice a1 n1 c1, .slice b1 m1 d1], .int .i64 C]) (by simp [results, Tryd.results16, go_sem, g0, g1, g2, g3]) rfl ⟨.slice a1 n1 c1, .slice b1 m1 d1, rfl, ?_, ?_⟩
    · exact ((((HBU.out.setLow (a := ⟨w.heap.size, 0, none⟩) (Nat.lt_succ_self _) _).setLow (a := ⟨w.heap.size, 1, none⟩) (Nat.lt_succ_self _) _).setLow (a := ⟨w.heap.size, 2, none⟩) (Nat.lt_succ_self _) _).setLow (a := ⟨w.heap.size, 3, none⟩) (Nat.lt_succ_self _) _).mono (Nat.le_succ _)
    · have HBW := Kp.base HK10.out
      exact ((((HBW.setCell (p := ⟨w.heap.size, 0, none⟩) (Nat.le_refl _) _).setCell (p := ⟨w.heap.size, 1, none⟩) (Nat.le_refl _) _).setCell (p := ⟨w.heap.size, 2, none⟩) (Nat.le_refl _) _).setCell (p := ⟨w.heap.size, 3, none⟩) (Nat.le_refl _) _)
  · have hle' := hle
    rw [HP.out] at hle'
    obtain ⟨rfl, rfl, rfl, rfl⟩ := HNO.out hle'
    have hres := Kp.res HK5.out
    have r0 := cells_get hres 0
    have r1 := cells_get hres 1
    have r2 := cells_get hres 2
    have r3 := cells_get hres 3
    have f0 := cells_free hres 0
    have f1 := cells_free hres 1
    have f2 := cells_free hres 2
    have f3 := cells_free hres 3
    have hlS := lt_of_block hres
    have p0 := cells_set hres 0 (.int .i64 0)
    have p1 := cells_set p0 1 (.int .i64 0)
    have p2 := cells_set p1 2 (Value.slice none 0 0)
    have p3 := cells_set p2 3 (Value.slice none 0 0)
    simp at r0 r1 r2 r3 p3
    have p4 := (Below.heap_alloc _ (.cells #[.int .i64 K2, .int .i64 0, .slice a5 n5 c5, .slice b5 m5 d5] 27) _ (lt_of_block p3)).trans p3
    have g0 := cells_get p4 0
    have g1 := cells_get p4 1
    have g2 := cells_get p4 2
    have g3 := cells_get p4 3
    simp at g0 g1 g2 g3
    have HG := Lib.hid (And.intro g0 (And.intro g1 (And.intro g2 g3)))
    clear p0 p1 p2 p3 p4 g0 g1 g2 g3 hres
    clear HP1 HNO HT3 HTO hle'
    go_wp2_with fail
    obtain ⟨g0, g1, g2, g3⟩ := HG.out
    refine bodyPost_ret (v := .tuple #[.agg #[.int .i64 0, .int .i64 0, .slice none 0 0, .slice none 0 0], .int .i64 3]) (by simp [results, Tryd.results16, go_sem, g0, g1, g2, g3]) rfl ⟨.slice none 0 0, .slice none 0 0, rfl, ImplTidied.built_none _ _, ?_⟩
    have HBW := Kp.base HK5.out
    exact ((((HBW.setCell (p := ⟨w.heap.size, 0, none⟩) (Nat.le_refl _) _).setCell (p := ⟨w.heap.size, 1, none⟩) (Nat.le_refl _) _).setCell (p := ⟨w.heap.size, 2, none⟩) (Nat.le_refl _) _).setCell (p := ⟨w.heap.size, 3, none⟩) (Nat.le_refl _) _).alloc (by simp [World.setCell]; have := HBW.size; omega) _
end Go.Proofs.YtaimealknkhfbaaDoor.JoinedL
