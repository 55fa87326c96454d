
/- The law of CountTuples: what the program answers is what the model answers, and the argument stays as it was.
   Conditions: the relation is read as XRel's text says. -/
import Derived.Test.YtaebeglcoghehaaCN29
import Derived.Deep.RegionWith
namespace Go.Proofs.Ytaebeglcoghehaa.LawCountTuples
set_option linter.unusedVariables false
set_option linter.unusedSimpArgs false
set_option linter.ambiguousOpen false
set_option maxRecDepth 100000
open Go.RowKit Mem Rel Columns Valid

set_option maxHeartbeats 4000000 in
theorem law (w : World) (v : Value) (r : R) (hr : RelAt w w.heap.size v r) (n1 : Int) :
    Calls Try.prog 5 #[v, .int .i64 n1] w fun e w' => e = .returned (.bool true) ∧ Below w.heap.size w w' := by
  have HR := Lib.hid hr
  have HSP := Lib.hid (fun v W B h hB => CntTupS.countS v r n1 W B h hB)
  have HIP := Lib.hid (fun v W B h hB => CntTup.countI v r n1 W B h hB)
  obtain ⟨V, hV⟩ : ∃ x, x = CntTup.cntV r n1 := ⟨_, rfl⟩
  obtain ⟨C, hC⟩ : ∃ x, x = CntTup.cntC r n1 := ⟨_, rfl⟩
  rw [← hV, ← hC] at HSP HIP
  clear hV hC
  obtain ⟨va, vn, rfl, -, -⟩ := hr
  have F0 := Lib.hid (Four.boxed w (.int .i64 r.tapes) (.int .i64 r.start) va vn 25)
  have b0 : Below w.heap.size w (w.alloc (.cells #[.int .i64 r.tapes, .int .i64 r.start, va, vn] 25)) := (Below.refl _ _).alloc (Nat.le_refl _) _
  have HRW := Lib.hid (fun W (h : Below w.heap.size w W) => HR.out.below h (Nat.le_refl _))
  have B0 := Lib.hid b0
  clear b0
  go_enter Try.func5, Try.ntmps5
  go_wp2_with fail
  refine (szRelation _ r 1048576 _ w.heap.size (HRW.out _ B0.out) (by simp) (by omega) (by omega)).mono ?_
  rintro e w1 ⟨rfl, hb1⟩
  have N1 : w.heap.size < w1.heap.size := by have := hb1.size; simp at this; omega
  have F1 := F0.out.below hb1 (by simp)
  have B1 := Lib.hid (B0.out.trans (hb1.mono (by simp)))
  clear hb1 HR
  obtain ⟨k0, k1, k2, k3⟩ := F1
  have F1 := Lib.hid (Four.mk k0 k1 k2 k3)
  obtain ⟨z, hz⟩ : ∃ z, z = szRel 1048576 r := ⟨_, rfl⟩
  rw [← hz]
  have HZ := Lib.hid hz
  clear hz
  by_cases hneg : z < 0
  · go_wp2_with fail
    go_ret
    exact ⟨rfl, B1.out⟩
  · have SH := Lib.hid (short_of (by rw [← HZ.out]; omega))
    go_wp2_with fail
    refine (copyRel _ r w1 w.heap.size (HRW.out _ B1.out) (by omega) SH.out).mono ?_
    rintro e w2 ⟨M2, rfl, hM2, hM2', hf2, hb2⟩
    have F2 := F1.out.below hb2 N1
    have N2 : w.heap.size < w2.heap.size := by omega
    have B2 := Lib.hid (B1.out.trans (hb2.mono (by omega)))
    have R2 := Lib.hid (hf2.reads hM2')
    clear k0 k1 k2 k3 hf2 hb2 N1 hM2 hM2'
    obtain ⟨k0, k1, k2, k3⟩ := F2
    have F2 := Lib.hid (Four.mk k0 k1 k2 k3)
    go_wp2_with fail
    refine (HSP.out _ w2 w2.heap.size R2.out (Nat.le_refl _)).mono ?_
    rintro e w3 ⟨rfl, hb3⟩
    have F3 := F2.out.below hb3 N2
    have N3 : w.heap.size < w3.heap.size := by have := hb3.size; omega
    have B3 := Lib.hid (B2.out.trans (hb3.mono (by omega)))
    clear k0 k1 k2 k3 hb3 N2
    obtain ⟨k0, k1, k2, k3⟩ := F3
    have F3 := Lib.hid (Four.mk k0 k1 k2 k3)
    go_wp2_with fail
    refine (copyRel _ r w3 w.heap.size (HRW.out _ B3.out) (by omega) SH.out).mono ?_
    rintro e w4 ⟨M, rfl, hM, hM', hf4, hb4⟩
    have F4 := F3.out.below hb4 N3
    have N4 : w.heap.size < w4.heap.size := by omega
    have B4 := Lib.hid (B3.out.trans (hb4.mono (by omega)))
    have FR4 := Lib.hid hf4
    have HM := Lib.hid hM'
    clear k0 k1 k2 k3 hf4 hb4 N3 hM hM'
    have b45 : Below w4.heap.size w4 (w4.alloc (.cells #[.int .i64 r.tapes, .int .i64 r.start, .slice (some ⟨M, 0, none⟩) r.accept.length r.accept.length, .slice (some ⟨M + 1, 0, none⟩) r.next.length r.next.length] 29)) := (Below.refl _ _).alloc (Nat.le_refl _) _
    have B5 := Lib.hid (B4.out.trans (b45.mono (by omega)))
    have F5 := Lib.hid (F4.below b45 N4)
    have G5 := Lib.hid (Four.boxed w4 (.int .i64 r.tapes) (.int .i64 r.start) (.slice (some ⟨M, 0, none⟩) r.accept.length r.accept.length) (.slice (some ⟨M + 1, 0, none⟩) r.next.length r.next.length) 29)
    have FR5 := Lib.hid (FR4.out.below b45 HM.out)
    have R5 := Lib.hid (FR5.out.reads (B := w4.heap.size) HM.out)
    clear b45
    obtain ⟨k0, k1, k2, k3⟩ := F4
    go_wp2_with fail
    refine (HIP.out _ _ w4.heap.size R5.out (by simp)).mono ?_
    rintro e w6 ⟨rfl, hb6⟩
    have F6 := F5.out.below hb6 (by simp; omega)
    have G6 := G5.out.below hb6 (by simp)
    have N6 : w4.heap.size < w6.heap.size := by have := hb6.size; simp at this; omega
    have B6 := Lib.hid (B5.out.trans (hb6.mono (by simp; omega)))
    have R6 := Lib.hid (R5.out.below hb6 (by simp))
    have NN := Lib.hid N4
    clear k0 k1 k2 k3 hb6 N4
    obtain ⟨X, hX⟩ : ∃ X, X = w4.heap.size := ⟨_, rfl⟩
    rw [← hX] at G6 N6 R6 NN HM
    rw [← hX]
    clear hX
    obtain ⟨k0, k1, k2, k3⟩ := F6
    obtain ⟨l0, l1, l2, l3⟩ := G6
    have F6 := Lib.hid (Four.mk k0 k1 k2 k3)
    have G6 := Lib.hid (Four.mk l0 l1 l2 l3)
    go_wp2_with fail
    go_region_with (first
      | (go_at_call 11; refine (copyRel _ r _ w.heap.size (HRW.out _ B6.out.drew) (by have := NN.out; simp; omega) SH.out).mono ?_; rintro e w7 ⟨M7, rfl, hM7, hM7', hf7, hb7⟩; obtain ⟨m0, m1, m2, m3⟩ := G6.out.drew.below hb7 N6)
      | (go_at_call 13; refine (eqRelation _ _ r r w7 w7.heap.size ((R6.out.drew.below hb7 (Nat.le_of_lt N6)).mono (by have := hb7.size; have := N6; simp at *; omega)) (hf7.reads hM7') (Nat.le_refl _)).mono ?_; rw [sameRel_self]; rintro e w8 ⟨rfl, hb8⟩; have B8 := Lib.hid ((B6.out.drew.trans (hb7.mono (by have := NN.out; simp; omega))).trans (hb8.mono (by have := NN.out; have := hb7.size; simp at this; omega)))))
    all_goals go_wp2
    all_goals go_ret
    all_goals exact ⟨rfl, B8.out⟩
end Go.Proofs.Ytaebeglcoghehaa.LawCountTuples
