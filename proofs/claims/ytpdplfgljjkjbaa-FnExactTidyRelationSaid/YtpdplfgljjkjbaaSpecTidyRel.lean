
/- What the model's TidyRelation answers: a relation in memory of its own, and a code.
   Conditions: the relation is read as XRel's text says. -/
import Derived.Test.YtpdplfgljjkjbaaSpecTidied
import Derived.Test.YtpdplfgljjkjbaaSpecTold
import Derived.Test.YtpdplfgljjkjbaaTidyDefs
namespace Go.Proofs.Ytpdplfgljjkjbaa.SpecTidyRel
set_option linter.unusedVariables false
set_option linter.unusedSimpArgs false
open Go.RowKit Mem Copy Rel Valid Heap Columns TidyAuto TidyRight SpecRight SpecTidied SpecTold ToL Bld

set_option maxHeartbeats 4000000 in
theorem specTidy (v : Value) (r : R) (w : World) (B : Nat) (h : RelAt w B v r) (hB : B ≤ w.heap.size) :
    Calls Try.prog 12 #[v] w fun e w' => ∃ va vn, e = .returned (.tuple #[.agg #[.int .i64 (tidyK r), .int .i64 0, va, vn], .int .i64 (tidyC r)]) ∧ Built w' w.heap.size va vn (tidyA r) (tidyN r) ∧ Below w.heap.size w w' := by
  obtain ⟨va, vn, rfl, ha, hn⟩ := h
  have HS := Lib.hid (show okB r = true → (relOf (toL r) = r ∧ (toL r).Ok) ∧ (toL r).acc.length ≤ 150 from fun h => by
    unfold okB at h
    rw [Bool.and_eq_true] at h
    exact ⟨relOf_toL h.2, by have := of_decide_eq_true h.1; show r.accept.length ≤ 150; omega⟩)
  have HP0 := RelPtr.boxed ha hn hB 27
  obtain ⟨aa, ba, oa, ca, rfl, -, -, -⟩ := ha
  obtain ⟨-, ⟨ab, bb, ob, cb, rfl, -, -, -⟩, -⟩ := hn
  have HW2 : ∃ W2, W2 = (w.alloc (.cells #[.int .i64 r.tapes, .int .i64 r.start, .slice aa r.accept.length ca, .slice ab r.next.length cb] 27)).alloc (.cells #[Value.int .i64 0, .int .i64 0, .slice none 0 0, .slice none 0 0] 27) := ⟨_, rfl⟩
  obtain ⟨W2, hW2⟩ := HW2
  have hsz : W2.heap.size = w.heap.size + 2 := by rw [hW2, size_alloc', size_alloc']
  have HP := Lib.hid (show RelPtr W2 W2.heap.size w.heap.size r from RelPtr.mono (by rw [hW2]; exact HP0.below ((Below.refl _ _).alloc (Nat.le_refl _) _) (by rw [size_alloc']; omega) (by rw [size_alloc']; omega)) (by rw [hsz]; omega))
  have HB2 := Lib.hid (show Below w.heap.size w W2 by rw [hW2]; exact ((Below.refl _ _).alloc (Nat.le_refl _) _).alloc (by rw [size_alloc']; omega) _)
  have HRES := Lib.hid (show W2.heap[w.heap.size + 1]? = some (.cells #[Value.int .i64 0, .int .i64 0, .slice none 0 0, .slice none 0 0] 27 (0, 0)) by
    rw [hW2]
    have := heap_alloc_new (w.alloc (.cells #[.int .i64 r.tapes, .int .i64 r.start, .slice aa r.accept.length ca, .slice ab r.next.length cb] 27)) (.cells #[Value.int .i64 0, .int .i64 0, .slice none 0 0, .slice none 0 0] 27)
    rwa [size_alloc'] at this)
  have HOKC := Lib.hid (specOk r w.heap.size W2 W2.heap.size HP.out)
  have HSZ := Lib.hid hsz
  clear hB HP0
  cases hok : okB r with
  | false =>
    have HC := Lib.hid (show tidyC r = 1 by simp [tidyC, hok])
    have HK := Lib.hid (show tidyK r = 0 by simp [tidyK, few, hok])
    have HA := Lib.hid (show tidyA r = [] by simp [tidyA, few, hok])
    have HN := Lib.hid (show tidyN r = [] by simp [tidyN, few, hok])
    rw [hok] at HOKC
    rw [HC.out, HK.out, HA.out, HN.out]
    clear hok hsz
    go_enter Try.func12, Try.ntmps12
    go_wp2_with fail
    rw [← hW2]
    clear hW2
    refine HOKC.out.mono ?_
    rintro e w3 ⟨rfl, m, rfl⟩
    have hres : (W2.drewN m).heap[w.heap.size + 1]? = some (.cells #[Value.int .i64 0, .int .i64 0, .slice none 0 0, .slice none 0 0] 27 (0, 0)) := HRES.out
    have r0 := cells_get hres 0
    have r1 := cells_get hres 1
    have r2 := cells_get hres 2
    have r3 := cells_get hres 3
    have f0 := cells_free hres 0
    have f1 := cells_free hres 1
    have f2 := cells_free hres 2
    have f3 := cells_free hres 3
    have hlS := lt_of_block hres
    have p0 := cells_set hres 0 (.int .i64 0)
    have p1 := cells_set p0 1 (.int .i64 0)
    have p2 := cells_set p1 2 (Value.slice none 0 0)
    have p3 := cells_set p2 3 (Value.slice none 0 0)
    simp at r0 r1 r2 r3 p3
    have g0 := cells_get p3 0
    have g1 := cells_get p3 1
    have g2 := cells_get p3 2
    have g3 := cells_get p3 3
    simp at g0 g1 g2 g3
    have HG := Lib.hid (And.intro g0 (And.intro g1 (And.intro g2 g3)))
    clear p0 p1 p2 p3 g0 g1 g2 g3 hres
    go_wp2_with fail
    obtain ⟨g0, g1, g2, g3⟩ := HG.out
    refine bodyPost_ret (v := .tuple #[.agg #[.int .i64 0, .int .i64 0, .slice none 0 0, .slice none 0 0], .int .i64 1]) (by
      simp [results, Try.results12, go_sem, g0, g1, g2, g3]) rfl ⟨_, _, rfl, built_none _ _, ?_⟩
    exact (((((below_drewN HB2.out m).setCell (p := ⟨w.heap.size + 1, 0, none⟩) (Nat.le_succ _) _).setCell (p := ⟨w.heap.size + 1, 1, none⟩) (Nat.le_succ _) _).setCell (p := ⟨w.heap.size + 1, 2, none⟩) (Nat.le_succ _) _).setCell (p := ⟨w.heap.size + 1, 3, none⟩) (Nat.le_succ _) _)
  | true =>
    obtain ⟨⟨hrel, hlok⟩, hl150⟩ := HS.out hok
    rw [hok] at HOKC
    have HTD := Lib.hid (fun m => tidied (toL r) hlok w.heap.size (W2.drewN m) W2.heap.size (by rw [hrel]; exact HP.out.drewN m) (Nat.le_refl _) (by show w.heap.size < W2.heap.size; omega) (by omega))
    obtain ⟨kk, hkk⟩ : ∃ kk : Int, kk = ((toL r).k : Int) := ⟨_, rfl⟩
    have HKT := Lib.hid (show kk = r.tapes by rw [hkk, ← congrArg R.tapes hrel]; rfl)
    rw [← hkk] at HTD
    obtain ⟨T, hT⟩ : ∃ T, T = (tidyAcc (toL r)).length := ⟨_, rfl⟩
    have HT8 := Lib.hid (show T ≤ 1000000 by
      rw [hT]
      have h1 : (tidyAcc (toL r)).length = (tid (auM (toL r)) 0).length := by unfold tidyAcc TidyAuto.tidAcc; rw [List.length_map]
      have h2 : (tid (auM (toL r)) 0).length ≤ TidyAuto.most (auM (toL r)) := TidyAuto.met_few (fits hlok) _
      have h3 := TidyAuto.cn_le (auM (toL r)) (TidyAuto.stop (auM (toL r)) + 1)
      have h4 : (auM (toL r)).n = (F (toL r)).length + 1 := rfl
      have h5 := F_few hlok
      unfold TidyAuto.most at h2
      omega)
    have HTT := Lib.hid hT
    have HOK := Lib.hid hok
    clear hok hrel hlok hl150 hkk hT
    go_enter Try.func12, Try.ntmps12
    go_wp2_with fail
    rw [← hW2]
    clear hW2
    refine HOKC.out.mono ?_
    rintro e w3 ⟨rfl, m, rfl⟩
    go_wp2_with fail
    refine (HTD.out m).mono ?_
    rintro e w4 ⟨va, vn, rfl, hbu, hb4⟩
    obtain ⟨a4, n4, c4, rfl, HN4⟩ := hbu.acc.shape'
    obtain ⟨items, -, hnx, -⟩ := hbu.rows
    obtain ⟨b4, m4, d4, rfl, -⟩ := hnx.shape'
    have hn4 : n4 = T := by rw [HN4.out, List.length_map]; exact HTT.out.symm
    subst hn4
    have HBU := Lib.hid hbu
    have HB4 := Lib.hid (show Below (w.heap.size + 2) W2 w4 from by
      have h1 : Below W2.heap.size (W2.drewN m) w4 := hb4
      rw [HSZ.out] at h1
      exact (below_drewN (Below.refl _ W2) m).trans h1)
    clear hbu hb4
    by_cases hf : n4 ≤ 150
    · have HFEW := Lib.hid (show few r = true by unfold few; rw [HOK.out, ← HTT.out]; simp; exact hf)
      have HC := Lib.hid (show tidyC r = 0 by unfold tidyC; rw [if_pos HOK.out, ← HTT.out, if_pos hf])
      have HK := Lib.hid (show tidyK r = kk by unfold tidyK; rw [if_pos HFEW.out]; exact HKT.out.symm)
      have HA := Lib.hid (show tidyA r = tidyAcc (toL r) by unfold tidyA; rw [if_pos HFEW.out])
      have HN := Lib.hid (show tidyN r = tidyNext (toL r) by unfold tidyN; rw [if_pos HFEW.out])
      go_wp2_with fail
      refine (told_few kk a4 b4 n4 c4 m4 d4 w4 hf).mono ?_
      rintro e w5 ⟨rfl, hb5⟩
      have HB5 := Lib.hid (show Below (w.heap.size + 2) W2 w5 from HB4.out.trans (hb5.mono (by have := HB4.out.size; rw [HSZ.out] at this; exact this)))
      have HBU5 := Lib.hid (HBU.out.below hb5)
      clear hb5
      have hres : w5.heap[w.heap.size + 1]? = some (.cells #[Value.int .i64 0, .int .i64 0, .slice none 0 0, .slice none 0 0] 27 (0, 0)) := (HB5.out.block _ (Nat.lt_succ_self _)).trans HRES.out
      have r0 := cells_get hres 0
      have r1 := cells_get hres 1
      have r2 := cells_get hres 2
      have r3 := cells_get hres 3
      have f0 := cells_free hres 0
      have f1 := cells_free hres 1
      have f2 := cells_free hres 2
      have f3 := cells_free hres 3
      have hlS := lt_of_block hres
      have p0 := cells_set hres 0 (.int .i64 kk)
      have p1 := cells_set p0 1 (.int .i64 0)
      have p2 := cells_set p1 2 (.slice a4 n4 c4)
      have p3 := cells_set p2 3 (.slice b4 m4 d4)
      simp at r0 r1 r2 r3 p3
      have g0 := cells_get p3 0
      have g1 := cells_get p3 1
      have g2 := cells_get p3 2
      have g3 := cells_get p3 3
      simp at g0 g1 g2 g3
      have HG := Lib.hid (And.intro g0 (And.intro g1 (And.intro g2 g3)))
      clear p0 p1 p2 p3 g0 g1 g2 g3 hres
      go_wp2_with fail
      obtain ⟨g0, g1, g2, g3⟩ := HG.out
      refine bodyPost_ret (v := .tuple #[.agg #[.int .i64 kk, .int .i64 0, .slice a4 n4 c4, .slice b4 m4 d4], .int .i64 0]) (by simp [results, Try.results12, go_sem, g0, g1, g2, g3]) rfl ⟨.slice a4 n4 c4, .slice b4 m4 d4, by rw [HC.out, HK.out], ?_, ?_⟩
      · rw [HA.out, HN.out]
        have hlow : w.heap.size + 1 < (W2.drewN m).heap.size := by show w.heap.size + 1 < W2.heap.size; rw [HSZ.out]; omega
        exact (((((HBU5.out.setLow (a := ⟨w.heap.size + 1, 0, none⟩) hlow _).setLow (a := ⟨w.heap.size + 1, 1, none⟩) hlow _).setLow (a := ⟨w.heap.size + 1, 2, none⟩) hlow _).setLow (a := ⟨w.heap.size + 1, 3, none⟩) hlow _).mono (by omega))
      · have HX := HB2.out.trans (HB5.out.mono (show w.heap.size ≤ w.heap.size + 2 by omega))
        exact (((((HX.setCell (p := ⟨w.heap.size + 1, 0, none⟩) (Nat.le_succ _) _).setCell (p := ⟨w.heap.size + 1, 1, none⟩) (Nat.le_succ _) _).setCell (p := ⟨w.heap.size + 1, 2, none⟩) (Nat.le_succ _) _).setCell (p := ⟨w.heap.size + 1, 3, none⟩) (Nat.le_succ _) _))
    · have HFEW := Lib.hid (show few r = false by unfold few; rw [HOK.out, ← HTT.out]; simp; omega)
      have HC := Lib.hid (show tidyC r = 3 by unfold tidyC; rw [if_pos HOK.out, ← HTT.out, if_neg hf])
      have HK := Lib.hid (show tidyK r = 0 by unfold tidyK; rw [HFEW.out]; rfl)
      have HA := Lib.hid (show tidyA r = [] by unfold tidyA; rw [HFEW.out]; rfl)
      have HN := Lib.hid (show tidyN r = [] by unfold tidyN; rw [HFEW.out]; rfl)
      have hf' : 150 < n4 := by omega
      go_wp2_with fail
      refine (told_many kk a4 b4 n4 c4 m4 d4 w4 hf' HT8.out).mono ?_
      rintro e w5 ⟨rfl, hb5⟩
      have HB5 := Lib.hid (show Below (w.heap.size + 2) W2 w5 from HB4.out.trans (hb5.mono (by have := HB4.out.size; rw [HSZ.out] at this; exact this)))
      clear hb5
      have hres : w5.heap[w.heap.size + 1]? = some (.cells #[Value.int .i64 0, .int .i64 0, .slice none 0 0, .slice none 0 0] 27 (0, 0)) := (HB5.out.block _ (Nat.lt_succ_self _)).trans HRES.out
      have r0 := cells_get hres 0
      have r1 := cells_get hres 1
      have r2 := cells_get hres 2
      have r3 := cells_get hres 3
      have f0 := cells_free hres 0
      have f1 := cells_free hres 1
      have f2 := cells_free hres 2
      have f3 := cells_free hres 3
      have hlS := lt_of_block hres
      have p0 := cells_set hres 0 (.int .i64 0)
      have p1 := cells_set p0 1 (.int .i64 0)
      have p2 := cells_set p1 2 (Value.slice none 0 0)
      have p3 := cells_set p2 3 (Value.slice none 0 0)
      simp at r0 r1 r2 r3 p3
      have g0 := cells_get p3 0
      have g1 := cells_get p3 1
      have g2 := cells_get p3 2
      have g3 := cells_get p3 3
      simp at g0 g1 g2 g3
      have HG := Lib.hid (And.intro g0 (And.intro g1 (And.intro g2 g3)))
      clear p0 p1 p2 p3 g0 g1 g2 g3 hres
      go_wp2_with fail
      obtain ⟨g0, g1, g2, g3⟩ := HG.out
      refine bodyPost_ret (v := .tuple #[.agg #[.int .i64 0, .int .i64 0, .slice none 0 0, .slice none 0 0], .int .i64 3]) (by simp [results, Try.results12, go_sem, g0, g1, g2, g3]) rfl ⟨.slice none 0 0, .slice none 0 0, by rw [HC.out, HK.out], by rw [HA.out, HN.out]; exact built_none _ _, ?_⟩
      have HX := HB2.out.trans (HB5.out.mono (show w.heap.size ≤ w.heap.size + 2 by omega))
      exact (((((HX.setCell (p := ⟨w.heap.size + 1, 0, none⟩) (Nat.le_succ _) _).setCell (p := ⟨w.heap.size + 1, 1, none⟩) (Nat.le_succ _) _).setCell (p := ⟨w.heap.size + 1, 2, none⟩) (Nat.le_succ _) _).setCell (p := ⟨w.heap.size + 1, 3, none⟩) (Nat.le_succ _) _))
end Go.Proofs.Ytpdplfgljjkjbaa.SpecTidyRel
