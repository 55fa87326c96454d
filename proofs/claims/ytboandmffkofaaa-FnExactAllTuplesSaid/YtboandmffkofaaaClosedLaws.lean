/- The laws of the known relations of two tapes.
   Conditions: none. -/
import Derived.Test.YtboandmffkofaaaClosedSpecs
import Derived.Test.YtboandmffkofaaaClosedSpecs2
import Derived.Test.YtboandmffkofaaaOrderSpec
import Derived.Test.YtboandmffkofaaaClosedImpl
namespace Go.Proofs.Ytboandmffkofaaa.ClosedLaws
set_option linter.unusedVariables false
set_option linter.unusedSimpArgs false
set_option maxRecDepth 100000
open Go.RowKit Mem Copy Rel Valid Heap Bld ColMath Columns Numbers ToL TidyAuto TidyRight SpecRight SpecTidyRel ImplRight Automaton Known Sim ResKit Closed ClosedImpl
open OrderSpec ClosedSpecs2 MarkRow MarkBool MarkRows MarkRel MarkOf LawKit ClosedRels ClosedSpecs

set_option maxHeartbeats 8000000 in
theorem lawEqual (w : World) : Calls Try.prog 4 #[] w fun e w' => e = .returned (.bool true) ∧ Below w.heap.size w w' := by
  have hE : Keeps w.heap.size (fun _ => True) := fun _ _ _ _ => trivial
  have HE := Lib.hid hE
  have HS := Lib.hid (fun W => specEqual W)
  have HI := Lib.hid (fun W => implEqual W)
  have HTS := Lib.hid (tidyL_sum sEqual_ok lenEqual)
  have hnl := tidyNext_len sEqual
  have hal := lenEqual
  obtain ⟨A, hA⟩ : ∃ A, A = tidyAcc sEqual := ⟨_, rfl⟩
  obtain ⟨N, hN⟩ : ∃ N, N = tidyNext sEqual := ⟨_, rfl⟩
  rw [← hA, ← hN] at HS HI HTS hnl
  rw [← hA] at hal
  have HTN := Lib.hid (show N.length ≤ 5000 by omega)
  clear hA hN hnl hal hE
  obtain ⟨p, hp⟩ : ∃ p, p = 1 + A.length + sumTo (lenF N) N.length := ⟨_, rfl⟩
  have hp0 : p ≤ 5000 := by rw [hp]; exact HTS.out
  have hpp : ((p : Int) != (p : Int)) = false := by simp
  have HPP := Lib.hid hp
  clear hp
  go_enter Try.func4, Try.ntmps4
  go_wp2_with fail
  refine (HS.out _).mono ?_
  rintro e w1 ⟨wa, wn, rfl, hbu, hb⟩
  have W2 := Lib.hid (WK.new (K := 2) hbu 27)
  obtain ⟨a4, n4, c4, rfl, -⟩ := hbu.acc.shape'
  obtain ⟨items4, -, hnx, -⟩ := hbu.rows
  obtain ⟨b4, m4, d4, rfl, -⟩ := hnx.shape'
  have B2 := Lib.hid (base_box (base_step (Below.refl _ w) hb) (.cells #[.int .i64 2, .int .i64 0, .slice a4 n4 c4, .slice b4 m4 d4] 27))
  obtain ⟨P, hP⟩ : ∃ P, P = w1.heap.size := ⟨_, rfl⟩
  have HWP := Lib.hid (show w.heap.size ≤ P by rw [hP]; exact hb.size)
  have HI2 := HI.out (w1.alloc (.cells #[.int .i64 2, .int .i64 0, .slice a4 n4 c4, .slice b4 m4 d4] 27))
  rw [size_alloc', ← hP] at HI2
  have HI2 := Lib.hid HI2
  rw [← hP] at W2
  clear hbu hb hnx
  go_wp2_with fail
  rw [← hP]
  have HP1 := Lib.hid hP
  clear hP
  refine HI2.out.mono ?_
  rintro e w3 ⟨ga, gn, rfl, hbu, hb⟩
  have hb2 : Below (w1.alloc (.cells #[.int .i64 2, .int .i64 0, .slice a4 n4 c4, .slice b4 m4 d4] 27)).heap.size (w1.alloc (.cells #[.int .i64 2, .int .i64 0, .slice a4 n4 c4, .slice b4 m4 d4] 27)) w3 := by rw [size_alloc', ← HP1.out]; exact hb
  obtain ⟨V, hV⟩ := built_relF hbu
  have HNS := Lib.hid (not_size hV)
  have HLQ := Lib.hid (show P + 1 ≤ w3.heap.size by have := hb2.size; rw [size_alloc', ← HP1.out] at this; exact this)
  have S3 := Lib.hid (show St w w.heap.size (fun _ => True) P 2 (.slice a4 n4 c4) (.slice b4 m4 d4) A N (P + 1) ga gn V w3.heap.size (boolF A) (intF N) (w3.alloc (.cells #[.int .i64 2, .int .i64 0, ga, gn] 27)) from
    ⟨base_box (base_step B2.out hb2) _, trivial, (W2.out.step hb2).step ((Below.refl _ _).alloc (Nat.le_refl _) _), hV.below ((Below.refl _ _).alloc (Nat.le_refl _) _), Kept.new _ _ _ _ _ _, HNS.out, Nat.lt_succ_self _, HWP.out, Nat.le_refl _, HLQ.out⟩)
  have G3 := Lib.hid (hbu.below ((Below.refl _ _).alloc (Nat.le_refl _) (.cells #[.int .i64 2, .int .i64 0, ga, gn] 27)))
  have WB := W2.out.step hb2
  obtain ⟨⟨q0, q1, q2, q3⟩, hlq⟩ := WB.box
  obtain ⟨a8, n8, c8, rfl, -⟩ := hbu.acc.shape'
  obtain ⟨items8, -, hnx, -⟩ := hbu.rows
  obtain ⟨b8, m8, d8, rfl, -⟩ := hnx.shape'
  clear hb hb2 hbu hnx hV WB HI2 B2 W2 HNS HLQ HP1
  go_wp2_with fail
  obtain ⟨Q, hQ⟩ : ∃ Q, Q = w3.heap.size := ⟨_, rfl⟩
  rw [← hQ]
  rw [← hQ] at S3
  clear hQ
  refine (eqRelation _ _ ⟨2, 0, A, N⟩ ⟨2, 0, A, N⟩ _ _ (G3.out.reads _ (Nat.le_refl _) 2 0) S3.out.wk.read (Nat.le_refl _)).mono ?_
  rw [sameRel_self]
  rintro e w4 ⟨rfl, hb⟩
  have S4 := Lib.hid (S3.out.step HE.out hb)
  have HM2 := Lib.hid (markRel 2 0 _ _ _ _ _ V _ _ 1 (P + 1) _ S4.out.relf S4.out.lL (by have := HTN.out; omega) (by omega) (by have := HTS.out; omega) (fun h => by have := HTS.out; omega))
  rw [← HPP.out] at HM2
  clear hb q0 q1 q2 q3 hlq S3 G3
  obtain ⟨⟨g0, g1, g2, g3⟩, hlg⟩ := S4.out.gb
  go_wp2_with fail
  refine HM2.out.mono ?_
  rintro e w5 ⟨rfl, hrf, ho⟩
  have S5 := Lib.hid (S4.out.markG HE.out ho hrf)
  have HH := Lib.hid (fun W (h : St w w.heap.size (fun _ => True) P 2 (.slice a4 n4 c4) (.slice b4 m4 d4) A N (P + 1) (.slice a8 n8 c8) (.slice b8 m8 d8) V Q (fun i => .bool (markB (1 + i))) (fun i c => .int .i64 ((1 + A.length + sumTo (lenF N) i + c : Nat) : Int)) W) =>
    heldRel 2 0 _ _ A.length N.length V (lenF N) 1 (P + 1) W h.relf (by have := HTN.out; omega) (by omega) (by have := HTS.out; omega) (fun h => by have := HTS.out; omega))
  rw [← HPP.out] at HH
  clear ho hrf HM2 S4 g0 g1 g2 g3 hlg
  obtain ⟨⟨g0, g1, g2, g3⟩, hlg⟩ := S5.out.gb
  go_wp2_with fail
  refine (HH.out _ S5.out).mono ?_
  rintro e w6 ⟨rfl, hb⟩
  have S6 := Lib.hid (S5.out.step HE.out hb)
  clear hb S5 g0 g1 g2 g3 hlg
  go_wp2_with fail
  refine (HI.out _).mono ?_
  rintro e w7 ⟨ha, hn, rfl, hbu, hb⟩
  have H7 := Lib.hid (hbu.below ((Below.refl _ _).alloc (Nat.le_refl _) (.cells #[.int .i64 2, .int .i64 0, ha, hn] 27)))
  have S7 := S6.out.step HE.out hb
  have S8 := Lib.hid (S7.step HE.out ((Below.refl _ _).alloc (Nat.le_refl _) (.cells #[.int .i64 2, .int .i64 0, ha, hn] 27)))
  obtain ⟨⟨p0, p1, p2, p3⟩, hlp⟩ := S7.wk.box
  obtain ⟨a25, n25, c25, rfl, -⟩ := hbu.acc.shape'
  obtain ⟨items25, -, hnx, -⟩ := hbu.rows
  obtain ⟨b25, m25, d25, rfl, -⟩ := hnx.shape'
  clear hb hbu hnx S6 S7
  go_wp2_with fail
  refine (eqRelation _ _ ⟨2, 0, A, N⟩ ⟨2, 0, A, N⟩ _ _ (H7.out.reads _ (Nat.le_refl _) 2 0) S8.out.wk.read (Nat.le_refl _)).mono ?_
  rw [sameRel_self]
  rintro e w9 ⟨rfl, hb⟩
  have S9 := Lib.hid (S8.out.step HE.out hb)
  clear hb H7 S8 p0 p1 p2 p3 hlp
  obtain ⟨⟨g0, g1, g2, g3⟩, hlg⟩ := S9.out.gb
  go_wp2_with fail
  refine (HH.out _ S9.out).mono ?_
  rintro e w10 ⟨rfl, hb⟩
  have B10 := Lib.hid (base_step S9.out.base hb)
  go_wp2_with fail
  go_ret
  exact ⟨rfl, B10.out⟩

set_option maxHeartbeats 8000000 in
theorem lawPrefix (w : World) : Calls Try.prog 5 #[] w fun e w' => e = .returned (.bool true) ∧ Below w.heap.size w w' := by
  have hE : Keeps w.heap.size (fun _ => True) := fun _ _ _ _ => trivial
  have HE := Lib.hid hE
  have HS := Lib.hid (fun W => specPrefix W)
  have HI := Lib.hid (fun W => implPrefix W)
  have HTS := Lib.hid (tidyL_sum sPrefix_ok lenPrefix)
  have hnl := tidyNext_len sPrefix
  have hal := lenPrefix
  obtain ⟨A, hA⟩ : ∃ A, A = tidyAcc sPrefix := ⟨_, rfl⟩
  obtain ⟨N, hN⟩ : ∃ N, N = tidyNext sPrefix := ⟨_, rfl⟩
  rw [← hA, ← hN] at HS HI HTS hnl
  rw [← hA] at hal
  have HTN := Lib.hid (show N.length ≤ 5000 by omega)
  clear hA hN hnl hal hE
  obtain ⟨p, hp⟩ : ∃ p, p = 1 + A.length + sumTo (lenF N) N.length := ⟨_, rfl⟩
  have hp0 : p ≤ 5000 := by rw [hp]; exact HTS.out
  have hpp : ((p : Int) != (p : Int)) = false := by simp
  have HPP := Lib.hid hp
  clear hp
  go_enter Try.func5, Try.ntmps5
  go_wp2_with fail
  refine (HS.out _).mono ?_
  rintro e w1 ⟨wa, wn, rfl, hbu, hb⟩
  have W2 := Lib.hid (WK.new (K := 2) hbu 27)
  obtain ⟨a4, n4, c4, rfl, -⟩ := hbu.acc.shape'
  obtain ⟨items4, -, hnx, -⟩ := hbu.rows
  obtain ⟨b4, m4, d4, rfl, -⟩ := hnx.shape'
  have B2 := Lib.hid (base_box (base_step (Below.refl _ w) hb) (.cells #[.int .i64 2, .int .i64 0, .slice a4 n4 c4, .slice b4 m4 d4] 27))
  obtain ⟨P, hP⟩ : ∃ P, P = w1.heap.size := ⟨_, rfl⟩
  have HWP := Lib.hid (show w.heap.size ≤ P by rw [hP]; exact hb.size)
  have HI2 := HI.out (w1.alloc (.cells #[.int .i64 2, .int .i64 0, .slice a4 n4 c4, .slice b4 m4 d4] 27))
  rw [size_alloc', ← hP] at HI2
  have HI2 := Lib.hid HI2
  rw [← hP] at W2
  clear hbu hb hnx
  go_wp2_with fail
  rw [← hP]
  have HP1 := Lib.hid hP
  clear hP
  refine HI2.out.mono ?_
  rintro e w3 ⟨ga, gn, rfl, hbu, hb⟩
  have hb2 : Below (w1.alloc (.cells #[.int .i64 2, .int .i64 0, .slice a4 n4 c4, .slice b4 m4 d4] 27)).heap.size (w1.alloc (.cells #[.int .i64 2, .int .i64 0, .slice a4 n4 c4, .slice b4 m4 d4] 27)) w3 := by rw [size_alloc', ← HP1.out]; exact hb
  obtain ⟨V, hV⟩ := built_relF hbu
  have HNS := Lib.hid (not_size hV)
  have HLQ := Lib.hid (show P + 1 ≤ w3.heap.size by have := hb2.size; rw [size_alloc', ← HP1.out] at this; exact this)
  have S3 := Lib.hid (show St w w.heap.size (fun _ => True) P 2 (.slice a4 n4 c4) (.slice b4 m4 d4) A N (P + 1) ga gn V w3.heap.size (boolF A) (intF N) (w3.alloc (.cells #[.int .i64 2, .int .i64 0, ga, gn] 27)) from
    ⟨base_box (base_step B2.out hb2) _, trivial, (W2.out.step hb2).step ((Below.refl _ _).alloc (Nat.le_refl _) _), hV.below ((Below.refl _ _).alloc (Nat.le_refl _) _), Kept.new _ _ _ _ _ _, HNS.out, Nat.lt_succ_self _, HWP.out, Nat.le_refl _, HLQ.out⟩)
  have G3 := Lib.hid (hbu.below ((Below.refl _ _).alloc (Nat.le_refl _) (.cells #[.int .i64 2, .int .i64 0, ga, gn] 27)))
  have WB := W2.out.step hb2
  obtain ⟨⟨q0, q1, q2, q3⟩, hlq⟩ := WB.box
  obtain ⟨a8, n8, c8, rfl, -⟩ := hbu.acc.shape'
  obtain ⟨items8, -, hnx, -⟩ := hbu.rows
  obtain ⟨b8, m8, d8, rfl, -⟩ := hnx.shape'
  clear hb hb2 hbu hnx hV WB HI2 B2 W2 HNS HLQ HP1
  go_wp2_with fail
  obtain ⟨Q, hQ⟩ : ∃ Q, Q = w3.heap.size := ⟨_, rfl⟩
  rw [← hQ]
  rw [← hQ] at S3
  clear hQ
  refine (eqRelation _ _ ⟨2, 0, A, N⟩ ⟨2, 0, A, N⟩ _ _ (G3.out.reads _ (Nat.le_refl _) 2 0) S3.out.wk.read (Nat.le_refl _)).mono ?_
  rw [sameRel_self]
  rintro e w4 ⟨rfl, hb⟩
  have S4 := Lib.hid (S3.out.step HE.out hb)
  have HM2 := Lib.hid (markRel 2 0 _ _ _ _ _ V _ _ 1 (P + 1) _ S4.out.relf S4.out.lL (by have := HTN.out; omega) (by omega) (by have := HTS.out; omega) (fun h => by have := HTS.out; omega))
  rw [← HPP.out] at HM2
  clear hb q0 q1 q2 q3 hlq S3 G3
  obtain ⟨⟨g0, g1, g2, g3⟩, hlg⟩ := S4.out.gb
  go_wp2_with fail
  refine HM2.out.mono ?_
  rintro e w5 ⟨rfl, hrf, ho⟩
  have S5 := Lib.hid (S4.out.markG HE.out ho hrf)
  have HH := Lib.hid (fun W (h : St w w.heap.size (fun _ => True) P 2 (.slice a4 n4 c4) (.slice b4 m4 d4) A N (P + 1) (.slice a8 n8 c8) (.slice b8 m8 d8) V Q (fun i => .bool (markB (1 + i))) (fun i c => .int .i64 ((1 + A.length + sumTo (lenF N) i + c : Nat) : Int)) W) =>
    heldRel 2 0 _ _ A.length N.length V (lenF N) 1 (P + 1) W h.relf (by have := HTN.out; omega) (by omega) (by have := HTS.out; omega) (fun h => by have := HTS.out; omega))
  rw [← HPP.out] at HH
  clear ho hrf HM2 S4 g0 g1 g2 g3 hlg
  obtain ⟨⟨g0, g1, g2, g3⟩, hlg⟩ := S5.out.gb
  go_wp2_with fail
  refine (HH.out _ S5.out).mono ?_
  rintro e w6 ⟨rfl, hb⟩
  have S6 := Lib.hid (S5.out.step HE.out hb)
  clear hb S5 g0 g1 g2 g3 hlg
  go_wp2_with fail
  refine (HI.out _).mono ?_
  rintro e w7 ⟨ha, hn, rfl, hbu, hb⟩
  have H7 := Lib.hid (hbu.below ((Below.refl _ _).alloc (Nat.le_refl _) (.cells #[.int .i64 2, .int .i64 0, ha, hn] 27)))
  have S7 := S6.out.step HE.out hb
  have S8 := Lib.hid (S7.step HE.out ((Below.refl _ _).alloc (Nat.le_refl _) (.cells #[.int .i64 2, .int .i64 0, ha, hn] 27)))
  obtain ⟨⟨p0, p1, p2, p3⟩, hlp⟩ := S7.wk.box
  obtain ⟨a25, n25, c25, rfl, -⟩ := hbu.acc.shape'
  obtain ⟨items25, -, hnx, -⟩ := hbu.rows
  obtain ⟨b25, m25, d25, rfl, -⟩ := hnx.shape'
  clear hb hbu hnx S6 S7
  go_wp2_with fail
  refine (eqRelation _ _ ⟨2, 0, A, N⟩ ⟨2, 0, A, N⟩ _ _ (H7.out.reads _ (Nat.le_refl _) 2 0) S8.out.wk.read (Nat.le_refl _)).mono ?_
  rw [sameRel_self]
  rintro e w9 ⟨rfl, hb⟩
  have S9 := Lib.hid (S8.out.step HE.out hb)
  clear hb H7 S8 p0 p1 p2 p3 hlp
  obtain ⟨⟨g0, g1, g2, g3⟩, hlg⟩ := S9.out.gb
  go_wp2_with fail
  refine (HH.out _ S9.out).mono ?_
  rintro e w10 ⟨rfl, hb⟩
  have B10 := Lib.hid (base_step S9.out.base hb)
  go_wp2_with fail
  go_ret
  exact ⟨rfl, B10.out⟩

set_option maxHeartbeats 8000000 in
theorem lawSucc (w : World) : Calls Try.prog 7 #[] w fun e w' => e = .returned (.bool true) ∧ Below w.heap.size w w' := by
  have hE : Keeps w.heap.size (fun _ => True) := fun _ _ _ _ => trivial
  have HE := Lib.hid hE
  have HS := Lib.hid (fun W => specSucc W)
  have HI := Lib.hid (fun W => implSucc W)
  have HTS := Lib.hid (tidyL_sum sSucc_ok lenSucc)
  have hnl := tidyNext_len sSucc
  have hal := lenSucc
  obtain ⟨A, hA⟩ : ∃ A, A = tidyAcc sSucc := ⟨_, rfl⟩
  obtain ⟨N, hN⟩ : ∃ N, N = tidyNext sSucc := ⟨_, rfl⟩
  rw [← hA, ← hN] at HS HI HTS hnl
  rw [← hA] at hal
  have HTN := Lib.hid (show N.length ≤ 5000 by omega)
  clear hA hN hnl hal hE
  obtain ⟨p, hp⟩ : ∃ p, p = 1 + A.length + sumTo (lenF N) N.length := ⟨_, rfl⟩
  have hp0 : p ≤ 5000 := by rw [hp]; exact HTS.out
  have hpp : ((p : Int) != (p : Int)) = false := by simp
  have HPP := Lib.hid hp
  clear hp
  go_enter Try.func7, Try.ntmps7
  go_wp2_with fail
  refine (HS.out _).mono ?_
  rintro e w1 ⟨wa, wn, rfl, hbu, hb⟩
  have W2 := Lib.hid (WK.new (K := 2) hbu 27)
  obtain ⟨a4, n4, c4, rfl, -⟩ := hbu.acc.shape'
  obtain ⟨items4, -, hnx, -⟩ := hbu.rows
  obtain ⟨b4, m4, d4, rfl, -⟩ := hnx.shape'
  have B2 := Lib.hid (base_box (base_step (Below.refl _ w) hb) (.cells #[.int .i64 2, .int .i64 0, .slice a4 n4 c4, .slice b4 m4 d4] 27))
  obtain ⟨P, hP⟩ : ∃ P, P = w1.heap.size := ⟨_, rfl⟩
  have HWP := Lib.hid (show w.heap.size ≤ P by rw [hP]; exact hb.size)
  have HI2 := HI.out (w1.alloc (.cells #[.int .i64 2, .int .i64 0, .slice a4 n4 c4, .slice b4 m4 d4] 27))
  rw [size_alloc', ← hP] at HI2
  have HI2 := Lib.hid HI2
  rw [← hP] at W2
  clear hbu hb hnx
  go_wp2_with fail
  rw [← hP]
  have HP1 := Lib.hid hP
  clear hP
  refine HI2.out.mono ?_
  rintro e w3 ⟨ga, gn, rfl, hbu, hb⟩
  have hb2 : Below (w1.alloc (.cells #[.int .i64 2, .int .i64 0, .slice a4 n4 c4, .slice b4 m4 d4] 27)).heap.size (w1.alloc (.cells #[.int .i64 2, .int .i64 0, .slice a4 n4 c4, .slice b4 m4 d4] 27)) w3 := by rw [size_alloc', ← HP1.out]; exact hb
  obtain ⟨V, hV⟩ := built_relF hbu
  have HNS := Lib.hid (not_size hV)
  have HLQ := Lib.hid (show P + 1 ≤ w3.heap.size by have := hb2.size; rw [size_alloc', ← HP1.out] at this; exact this)
  have S3 := Lib.hid (show St w w.heap.size (fun _ => True) P 2 (.slice a4 n4 c4) (.slice b4 m4 d4) A N (P + 1) ga gn V w3.heap.size (boolF A) (intF N) (w3.alloc (.cells #[.int .i64 2, .int .i64 0, ga, gn] 27)) from
    ⟨base_box (base_step B2.out hb2) _, trivial, (W2.out.step hb2).step ((Below.refl _ _).alloc (Nat.le_refl _) _), hV.below ((Below.refl _ _).alloc (Nat.le_refl _) _), Kept.new _ _ _ _ _ _, HNS.out, Nat.lt_succ_self _, HWP.out, Nat.le_refl _, HLQ.out⟩)
  have G3 := Lib.hid (hbu.below ((Below.refl _ _).alloc (Nat.le_refl _) (.cells #[.int .i64 2, .int .i64 0, ga, gn] 27)))
  have WB := W2.out.step hb2
  obtain ⟨⟨q0, q1, q2, q3⟩, hlq⟩ := WB.box
  obtain ⟨a8, n8, c8, rfl, -⟩ := hbu.acc.shape'
  obtain ⟨items8, -, hnx, -⟩ := hbu.rows
  obtain ⟨b8, m8, d8, rfl, -⟩ := hnx.shape'
  clear hb hb2 hbu hnx hV WB HI2 B2 W2 HNS HLQ HP1
  go_wp2_with fail
  obtain ⟨Q, hQ⟩ : ∃ Q, Q = w3.heap.size := ⟨_, rfl⟩
  rw [← hQ]
  rw [← hQ] at S3
  clear hQ
  refine (eqRelation _ _ ⟨2, 0, A, N⟩ ⟨2, 0, A, N⟩ _ _ (G3.out.reads _ (Nat.le_refl _) 2 0) S3.out.wk.read (Nat.le_refl _)).mono ?_
  rw [sameRel_self]
  rintro e w4 ⟨rfl, hb⟩
  have S4 := Lib.hid (S3.out.step HE.out hb)
  have HM2 := Lib.hid (markRel 2 0 _ _ _ _ _ V _ _ 1 (P + 1) _ S4.out.relf S4.out.lL (by have := HTN.out; omega) (by omega) (by have := HTS.out; omega) (fun h => by have := HTS.out; omega))
  rw [← HPP.out] at HM2
  clear hb q0 q1 q2 q3 hlq S3 G3
  obtain ⟨⟨g0, g1, g2, g3⟩, hlg⟩ := S4.out.gb
  go_wp2_with fail
  refine HM2.out.mono ?_
  rintro e w5 ⟨rfl, hrf, ho⟩
  have S5 := Lib.hid (S4.out.markG HE.out ho hrf)
  have HH := Lib.hid (fun W (h : St w w.heap.size (fun _ => True) P 2 (.slice a4 n4 c4) (.slice b4 m4 d4) A N (P + 1) (.slice a8 n8 c8) (.slice b8 m8 d8) V Q (fun i => .bool (markB (1 + i))) (fun i c => .int .i64 ((1 + A.length + sumTo (lenF N) i + c : Nat) : Int)) W) =>
    heldRel 2 0 _ _ A.length N.length V (lenF N) 1 (P + 1) W h.relf (by have := HTN.out; omega) (by omega) (by have := HTS.out; omega) (fun h => by have := HTS.out; omega))
  rw [← HPP.out] at HH
  clear ho hrf HM2 S4 g0 g1 g2 g3 hlg
  obtain ⟨⟨g0, g1, g2, g3⟩, hlg⟩ := S5.out.gb
  go_wp2_with fail
  refine (HH.out _ S5.out).mono ?_
  rintro e w6 ⟨rfl, hb⟩
  have S6 := Lib.hid (S5.out.step HE.out hb)
  clear hb S5 g0 g1 g2 g3 hlg
  go_wp2_with fail
  refine (HI.out _).mono ?_
  rintro e w7 ⟨ha, hn, rfl, hbu, hb⟩
  have H7 := Lib.hid (hbu.below ((Below.refl _ _).alloc (Nat.le_refl _) (.cells #[.int .i64 2, .int .i64 0, ha, hn] 27)))
  have S7 := S6.out.step HE.out hb
  have S8 := Lib.hid (S7.step HE.out ((Below.refl _ _).alloc (Nat.le_refl _) (.cells #[.int .i64 2, .int .i64 0, ha, hn] 27)))
  obtain ⟨⟨p0, p1, p2, p3⟩, hlp⟩ := S7.wk.box
  obtain ⟨a25, n25, c25, rfl, -⟩ := hbu.acc.shape'
  obtain ⟨items25, -, hnx, -⟩ := hbu.rows
  obtain ⟨b25, m25, d25, rfl, -⟩ := hnx.shape'
  clear hb hbu hnx S6 S7
  go_wp2_with fail
  refine (eqRelation _ _ ⟨2, 0, A, N⟩ ⟨2, 0, A, N⟩ _ _ (H7.out.reads _ (Nat.le_refl _) 2 0) S8.out.wk.read (Nat.le_refl _)).mono ?_
  rw [sameRel_self]
  rintro e w9 ⟨rfl, hb⟩
  have S9 := Lib.hid (S8.out.step HE.out hb)
  clear hb H7 S8 p0 p1 p2 p3 hlp
  obtain ⟨⟨g0, g1, g2, g3⟩, hlg⟩ := S9.out.gb
  go_wp2_with fail
  refine (HH.out _ S9.out).mono ?_
  rintro e w10 ⟨rfl, hb⟩
  have B10 := Lib.hid (base_step S9.out.base hb)
  go_wp2_with fail
  go_ret
  exact ⟨rfl, B10.out⟩

set_option maxHeartbeats 8000000 in
theorem lawOrder (w : World) : Calls Try.prog 6 #[] w fun e w' => e = .returned (.bool true) ∧ Below w.heap.size w w' := by
  have hE : Keeps w.heap.size (fun _ => True) := fun _ _ _ _ => trivial
  have HE := Lib.hid hE
  have HS := Lib.hid (fun W => specOrder W)
  have HI := Lib.hid (fun W => implOrder W)
  have HTS := Lib.hid (tidyL_sum sOrder_ok lenOrder)
  have hnl := tidyNext_len sOrder
  have hal := lenOrder
  obtain ⟨A, hA⟩ : ∃ A, A = tidyAcc sOrder := ⟨_, rfl⟩
  obtain ⟨N, hN⟩ : ∃ N, N = tidyNext sOrder := ⟨_, rfl⟩
  rw [← hA, ← hN] at HS HI HTS hnl
  rw [← hA] at hal
  have HTN := Lib.hid (show N.length ≤ 5000 by omega)
  clear hA hN hnl hal hE
  obtain ⟨p, hp⟩ : ∃ p, p = 1 + A.length + sumTo (lenF N) N.length := ⟨_, rfl⟩
  have hp0 : p ≤ 5000 := by rw [hp]; exact HTS.out
  have hpp : ((p : Int) != (p : Int)) = false := by simp
  have HPP := Lib.hid hp
  clear hp
  go_enter Try.func6, Try.ntmps6
  go_wp2_with fail
  refine (HS.out _).mono ?_
  rintro e w1 ⟨wa, wn, rfl, hbu, hb⟩
  have W2 := Lib.hid (WK.new (K := 2) hbu 27)
  obtain ⟨a4, n4, c4, rfl, -⟩ := hbu.acc.shape'
  obtain ⟨items4, -, hnx, -⟩ := hbu.rows
  obtain ⟨b4, m4, d4, rfl, -⟩ := hnx.shape'
  have B2 := Lib.hid (base_box (base_step (Below.refl _ w) hb) (.cells #[.int .i64 2, .int .i64 0, .slice a4 n4 c4, .slice b4 m4 d4] 27))
  obtain ⟨P, hP⟩ : ∃ P, P = w1.heap.size := ⟨_, rfl⟩
  have HWP := Lib.hid (show w.heap.size ≤ P by rw [hP]; exact hb.size)
  have HI2 := HI.out (w1.alloc (.cells #[.int .i64 2, .int .i64 0, .slice a4 n4 c4, .slice b4 m4 d4] 27))
  rw [size_alloc', ← hP] at HI2
  have HI2 := Lib.hid HI2
  rw [← hP] at W2
  clear hbu hb hnx
  go_wp2_with fail
  rw [← hP]
  have HP1 := Lib.hid hP
  clear hP
  refine HI2.out.mono ?_
  rintro e w3 ⟨ga, gn, rfl, hbu, hb⟩
  have hb2 : Below (w1.alloc (.cells #[.int .i64 2, .int .i64 0, .slice a4 n4 c4, .slice b4 m4 d4] 27)).heap.size (w1.alloc (.cells #[.int .i64 2, .int .i64 0, .slice a4 n4 c4, .slice b4 m4 d4] 27)) w3 := by rw [size_alloc', ← HP1.out]; exact hb
  obtain ⟨V, hV⟩ := built_relF hbu
  have HNS := Lib.hid (not_size hV)
  have HLQ := Lib.hid (show P + 1 ≤ w3.heap.size by have := hb2.size; rw [size_alloc', ← HP1.out] at this; exact this)
  have S3 := Lib.hid (show St w w.heap.size (fun _ => True) P 2 (.slice a4 n4 c4) (.slice b4 m4 d4) A N (P + 1) ga gn V w3.heap.size (boolF A) (intF N) (w3.alloc (.cells #[.int .i64 2, .int .i64 0, ga, gn] 27)) from
    ⟨base_box (base_step B2.out hb2) _, trivial, (W2.out.step hb2).step ((Below.refl _ _).alloc (Nat.le_refl _) _), hV.below ((Below.refl _ _).alloc (Nat.le_refl _) _), Kept.new _ _ _ _ _ _, HNS.out, Nat.lt_succ_self _, HWP.out, Nat.le_refl _, HLQ.out⟩)
  have G3 := Lib.hid (hbu.below ((Below.refl _ _).alloc (Nat.le_refl _) (.cells #[.int .i64 2, .int .i64 0, ga, gn] 27)))
  have WB := W2.out.step hb2
  obtain ⟨⟨q0, q1, q2, q3⟩, hlq⟩ := WB.box
  obtain ⟨a8, n8, c8, rfl, -⟩ := hbu.acc.shape'
  obtain ⟨items8, -, hnx, -⟩ := hbu.rows
  obtain ⟨b8, m8, d8, rfl, -⟩ := hnx.shape'
  clear hb hb2 hbu hnx hV WB HI2 B2 W2 HNS HLQ HP1
  go_wp2_with fail
  obtain ⟨Q, hQ⟩ : ∃ Q, Q = w3.heap.size := ⟨_, rfl⟩
  rw [← hQ]
  rw [← hQ] at S3
  clear hQ
  refine (eqRelation _ _ ⟨2, 0, A, N⟩ ⟨2, 0, A, N⟩ _ _ (G3.out.reads _ (Nat.le_refl _) 2 0) S3.out.wk.read (Nat.le_refl _)).mono ?_
  rw [sameRel_self]
  rintro e w4 ⟨rfl, hb⟩
  have S4 := Lib.hid (S3.out.step HE.out hb)
  have HM2 := Lib.hid (markRel 2 0 _ _ _ _ _ V _ _ 1 (P + 1) _ S4.out.relf S4.out.lL (by have := HTN.out; omega) (by omega) (by have := HTS.out; omega) (fun h => by have := HTS.out; omega))
  rw [← HPP.out] at HM2
  clear hb q0 q1 q2 q3 hlq S3 G3
  obtain ⟨⟨g0, g1, g2, g3⟩, hlg⟩ := S4.out.gb
  go_wp2_with fail
  refine HM2.out.mono ?_
  rintro e w5 ⟨rfl, hrf, ho⟩
  have S5 := Lib.hid (S4.out.markG HE.out ho hrf)
  have HH := Lib.hid (fun W (h : St w w.heap.size (fun _ => True) P 2 (.slice a4 n4 c4) (.slice b4 m4 d4) A N (P + 1) (.slice a8 n8 c8) (.slice b8 m8 d8) V Q (fun i => .bool (markB (1 + i))) (fun i c => .int .i64 ((1 + A.length + sumTo (lenF N) i + c : Nat) : Int)) W) =>
    heldRel 2 0 _ _ A.length N.length V (lenF N) 1 (P + 1) W h.relf (by have := HTN.out; omega) (by omega) (by have := HTS.out; omega) (fun h => by have := HTS.out; omega))
  rw [← HPP.out] at HH
  clear ho hrf HM2 S4 g0 g1 g2 g3 hlg
  obtain ⟨⟨g0, g1, g2, g3⟩, hlg⟩ := S5.out.gb
  go_wp2_with fail
  refine (HH.out _ S5.out).mono ?_
  rintro e w6 ⟨rfl, hb⟩
  have S6 := Lib.hid (S5.out.step HE.out hb)
  clear hb S5 g0 g1 g2 g3 hlg
  go_wp2_with fail
  refine (HI.out _).mono ?_
  rintro e w7 ⟨ha, hn, rfl, hbu, hb⟩
  have H7 := Lib.hid (hbu.below ((Below.refl _ _).alloc (Nat.le_refl _) (.cells #[.int .i64 2, .int .i64 0, ha, hn] 27)))
  have S7 := S6.out.step HE.out hb
  have S8 := Lib.hid (S7.step HE.out ((Below.refl _ _).alloc (Nat.le_refl _) (.cells #[.int .i64 2, .int .i64 0, ha, hn] 27)))
  obtain ⟨⟨p0, p1, p2, p3⟩, hlp⟩ := S7.wk.box
  obtain ⟨a25, n25, c25, rfl, -⟩ := hbu.acc.shape'
  obtain ⟨items25, -, hnx, -⟩ := hbu.rows
  obtain ⟨b25, m25, d25, rfl, -⟩ := hnx.shape'
  clear hb hbu hnx S6 S7
  go_wp2_with fail
  refine (eqRelation _ _ ⟨2, 0, A, N⟩ ⟨2, 0, A, N⟩ _ _ (H7.out.reads _ (Nat.le_refl _) 2 0) S8.out.wk.read (Nat.le_refl _)).mono ?_
  rw [sameRel_self]
  rintro e w9 ⟨rfl, hb⟩
  have S9 := Lib.hid (S8.out.step HE.out hb)
  clear hb H7 S8 p0 p1 p2 p3 hlp
  obtain ⟨⟨g0, g1, g2, g3⟩, hlg⟩ := S9.out.gb
  go_wp2_with fail
  refine (HH.out _ S9.out).mono ?_
  rintro e w10 ⟨rfl, hb⟩
  have B10 := Lib.hid (base_step S9.out.base hb)
  go_wp2_with fail
  go_ret
  exact ⟨rfl, B10.out⟩

set_option maxHeartbeats 8000000 in
theorem lawTLen (n : Int) (K C : Int) (A : List Bool) (N : List (List Int)) (hS : ∀ W, Calls Try.prog 27 #[.int .i64 n] W fun e w' => ∃ va vn, e = .returned (.tuple #[.agg #[.int .i64 K, .int .i64 0, va, vn], .int .i64 C]) ∧ Built w' W.heap.size va vn A N ∧ Below W.heap.size W w')
    (hI : ∀ W, Calls Try.prog 28 #[.int .i64 n] W fun e w' => ∃ va vn, e = .returned (.tuple #[.agg #[.int .i64 K, .int .i64 0, va, vn], .int .i64 C]) ∧ Built w' W.heap.size va vn A N ∧ Below W.heap.size W w') (hT : 1 + A.length + sumTo (lenF N) N.length ≤ 5000) (hNl : N.length ≤ 5000) (w : World) :
    Calls Try.prog 8 #[.int .i64 n] w fun e w' => e = .returned (.bool true) ∧ Below w.heap.size w w' := by
  have HE := Lib.hid (show Keeps w.heap.size (fun _ => True) from fun _ _ _ _ => trivial)
  have HS := Lib.hid hS
  have HI := Lib.hid hI
  have HTS := Lib.hid hT
  have HTN := Lib.hid hNl
  have hcc : (C != C) = false := by simp
  clear hS hI hT hNl
  obtain ⟨p, hp⟩ : ∃ p, p = 1 + A.length + sumTo (lenF N) N.length := ⟨_, rfl⟩
  have hp0 : p ≤ 5000 := by rw [hp]; exact HTS.out
  have hpp : ((p : Int) != (p : Int)) = false := by simp
  have HPP := Lib.hid hp
  clear hp
  go_enter Try.func8, Try.ntmps8
  go_wp2_with fail
  refine (HS.out _).mono ?_
  rintro e w1 ⟨wa, wn, rfl, hbu, hb⟩
  have W2 := Lib.hid (WK.new (K := K) hbu 27)
  obtain ⟨a4, n4, c4, rfl, -⟩ := hbu.acc.shape'
  obtain ⟨items4, -, hnx, -⟩ := hbu.rows
  obtain ⟨b4, m4, d4, rfl, -⟩ := hnx.shape'
  have B2 := Lib.hid (base_box (base_step (Below.refl _ w) hb) (.cells #[.int .i64 K, .int .i64 0, .slice a4 n4 c4, .slice b4 m4 d4] 27))
  obtain ⟨P, hP⟩ : ∃ P, P = w1.heap.size := ⟨_, rfl⟩
  have HWP := Lib.hid (show w.heap.size ≤ P by rw [hP]; exact hb.size)
  have HI2 := HI.out (w1.alloc (.cells #[.int .i64 K, .int .i64 0, .slice a4 n4 c4, .slice b4 m4 d4] 27))
  rw [size_alloc', ← hP] at HI2
  have HI2 := Lib.hid HI2
  rw [← hP] at W2
  clear hbu hb hnx
  go_wp2_with fail
  rw [← hP]
  have HP1 := Lib.hid hP
  clear hP
  refine HI2.out.mono ?_
  rintro e w3 ⟨ga, gn, rfl, hbu, hb⟩
  have hb2 : Below (w1.alloc (.cells #[.int .i64 K, .int .i64 0, .slice a4 n4 c4, .slice b4 m4 d4] 27)).heap.size (w1.alloc (.cells #[.int .i64 K, .int .i64 0, .slice a4 n4 c4, .slice b4 m4 d4] 27)) w3 := by rw [size_alloc', ← HP1.out]; exact hb
  obtain ⟨V, hV⟩ := built_relF hbu
  have HNS := Lib.hid (not_size hV)
  have HLQ := Lib.hid (show P + 1 ≤ w3.heap.size by have := hb2.size; rw [size_alloc', ← HP1.out] at this; exact this)
  have S3 := Lib.hid (show St w w.heap.size (fun _ => True) P K (.slice a4 n4 c4) (.slice b4 m4 d4) A N (P + 1) ga gn V w3.heap.size (boolF A) (intF N) (w3.alloc (.cells #[.int .i64 K, .int .i64 0, ga, gn] 27)) from
    ⟨base_box (base_step B2.out hb2) _, trivial, (W2.out.step hb2).step ((Below.refl _ _).alloc (Nat.le_refl _) _), hV.below ((Below.refl _ _).alloc (Nat.le_refl _) _), Kept.new _ _ _ _ _ _, HNS.out, Nat.lt_succ_self _, HWP.out, Nat.le_refl _, HLQ.out⟩)
  have G3 := Lib.hid (hbu.below ((Below.refl _ _).alloc (Nat.le_refl _) (.cells #[.int .i64 K, .int .i64 0, ga, gn] 27)))
  have WB := W2.out.step hb2
  obtain ⟨⟨q0, q1, q2, q3⟩, hlq⟩ := WB.box
  obtain ⟨a8, n8, c8, rfl, -⟩ := hbu.acc.shape'
  obtain ⟨items8, -, hnx, -⟩ := hbu.rows
  obtain ⟨b8, m8, d8, rfl, -⟩ := hnx.shape'
  clear hb hb2 hbu hnx hV WB HI2 B2 W2 HNS HLQ HP1
  go_wp2_with fail
  obtain ⟨Q, hQ⟩ : ∃ Q, Q = w3.heap.size := ⟨_, rfl⟩
  rw [← hQ]
  rw [← hQ] at S3
  clear hQ
  refine (eqRelation _ _ ⟨K, 0, A, N⟩ ⟨K, 0, A, N⟩ _ _ (G3.out.reads _ (Nat.le_refl _) K 0) S3.out.wk.read (Nat.le_refl _)).mono ?_
  rw [sameRel_self]
  rintro e w4 ⟨rfl, hb⟩
  have S4 := Lib.hid (S3.out.step HE.out hb)
  have HM2 := Lib.hid (markRel K 0 _ _ _ _ _ V _ _ 1 (P + 1) _ S4.out.relf S4.out.lL (by have := HTN.out; omega) (by omega) (by have := HTS.out; omega) (fun h => by have := HTS.out; omega))
  rw [← HPP.out] at HM2
  clear hb q0 q1 q2 q3 hlq S3 G3
  obtain ⟨⟨g0, g1, g2, g3⟩, hlg⟩ := S4.out.gb
  go_wp2_with fail
  refine HM2.out.mono ?_
  rintro e w5 ⟨rfl, hrf, ho⟩
  have S5 := Lib.hid (S4.out.markG HE.out ho hrf)
  have HH := Lib.hid (fun W (h : St w w.heap.size (fun _ => True) P K (.slice a4 n4 c4) (.slice b4 m4 d4) A N (P + 1) (.slice a8 n8 c8) (.slice b8 m8 d8) V Q (fun i => .bool (markB (1 + i))) (fun i c => .int .i64 ((1 + A.length + sumTo (lenF N) i + c : Nat) : Int)) W) =>
    heldRel K 0 _ _ A.length N.length V (lenF N) 1 (P + 1) W h.relf (by have := HTN.out; omega) (by omega) (by have := HTS.out; omega) (fun h => by have := HTS.out; omega))
  rw [← HPP.out] at HH
  clear ho hrf HM2 S4 g0 g1 g2 g3 hlg
  obtain ⟨⟨g0, g1, g2, g3⟩, hlg⟩ := S5.out.gb
  go_wp2_with fail
  refine (HH.out _ S5.out).mono ?_
  rintro e w6 ⟨rfl, hb⟩
  have S6 := Lib.hid (S5.out.step HE.out hb)
  clear hb S5 g0 g1 g2 g3 hlg
  go_wp2_with fail
  refine (HI.out _).mono ?_
  rintro e w7 ⟨ha, hn, rfl, hbu, hb⟩
  have H7 := Lib.hid (hbu.below ((Below.refl _ _).alloc (Nat.le_refl _) (.cells #[.int .i64 K, .int .i64 0, ha, hn] 27)))
  have S7 := S6.out.step HE.out hb
  have S8 := Lib.hid (S7.step HE.out ((Below.refl _ _).alloc (Nat.le_refl _) (.cells #[.int .i64 K, .int .i64 0, ha, hn] 27)))
  obtain ⟨⟨p0, p1, p2, p3⟩, hlp⟩ := S7.wk.box
  obtain ⟨a25, n25, c25, rfl, -⟩ := hbu.acc.shape'
  obtain ⟨items25, -, hnx, -⟩ := hbu.rows
  obtain ⟨b25, m25, d25, rfl, -⟩ := hnx.shape'
  clear hb hbu hnx S6 S7
  go_wp2_with fail
  refine (eqRelation _ _ ⟨K, 0, A, N⟩ ⟨K, 0, A, N⟩ _ _ (H7.out.reads _ (Nat.le_refl _) K 0) S8.out.wk.read (Nat.le_refl _)).mono ?_
  rw [sameRel_self]
  rintro e w9 ⟨rfl, hb⟩
  have S9 := Lib.hid (S8.out.step HE.out hb)
  clear hb H7 S8 p0 p1 p2 p3 hlp
  obtain ⟨⟨g0, g1, g2, g3⟩, hlg⟩ := S9.out.gb
  go_wp2_with fail
  refine (HH.out _ S9.out).mono ?_
  rintro e w10 ⟨rfl, hb⟩
  have B10 := Lib.hid (base_step S9.out.base hb)
  go_wp2_with fail
  go_ret
  exact ⟨rfl, B10.out⟩

set_option maxHeartbeats 8000000 in
theorem lawTAll (n : Int) (K C : Int) (A : List Bool) (N : List (List Int)) (hS : ∀ W, Calls Try.prog 29 #[.int .i64 n] W fun e w' => ∃ va vn, e = .returned (.tuple #[.agg #[.int .i64 K, .int .i64 0, va, vn], .int .i64 C]) ∧ Built w' W.heap.size va vn A N ∧ Below W.heap.size W w')
    (hI : ∀ W, Calls Try.prog 30 #[.int .i64 n] W fun e w' => ∃ va vn, e = .returned (.tuple #[.agg #[.int .i64 K, .int .i64 0, va, vn], .int .i64 C]) ∧ Built w' W.heap.size va vn A N ∧ Below W.heap.size W w') (hT : 1 + A.length + sumTo (lenF N) N.length ≤ 5000) (hNl : N.length ≤ 5000) (w : World) :
    Calls Try.prog 9 #[.int .i64 n] w fun e w' => e = .returned (.bool true) ∧ Below w.heap.size w w' := by
  have HE := Lib.hid (show Keeps w.heap.size (fun _ => True) from fun _ _ _ _ => trivial)
  have HS := Lib.hid hS
  have HI := Lib.hid hI
  have HTS := Lib.hid hT
  have HTN := Lib.hid hNl
  have hcc : (C != C) = false := by simp
  clear hS hI hT hNl
  obtain ⟨p, hp⟩ : ∃ p, p = 1 + A.length + sumTo (lenF N) N.length := ⟨_, rfl⟩
  have hp0 : p ≤ 5000 := by rw [hp]; exact HTS.out
  have hpp : ((p : Int) != (p : Int)) = false := by simp
  have HPP := Lib.hid hp
  clear hp
  go_enter Try.func9, Try.ntmps9
  go_wp2_with fail
  refine (HS.out _).mono ?_
  rintro e w1 ⟨wa, wn, rfl, hbu, hb⟩
  have W2 := Lib.hid (WK.new (K := K) hbu 27)
  obtain ⟨a4, n4, c4, rfl, -⟩ := hbu.acc.shape'
  obtain ⟨items4, -, hnx, -⟩ := hbu.rows
  obtain ⟨b4, m4, d4, rfl, -⟩ := hnx.shape'
  have B2 := Lib.hid (base_box (base_step (Below.refl _ w) hb) (.cells #[.int .i64 K, .int .i64 0, .slice a4 n4 c4, .slice b4 m4 d4] 27))
  obtain ⟨P, hP⟩ : ∃ P, P = w1.heap.size := ⟨_, rfl⟩
  have HWP := Lib.hid (show w.heap.size ≤ P by rw [hP]; exact hb.size)
  have HI2 := HI.out (w1.alloc (.cells #[.int .i64 K, .int .i64 0, .slice a4 n4 c4, .slice b4 m4 d4] 27))
  rw [size_alloc', ← hP] at HI2
  have HI2 := Lib.hid HI2
  rw [← hP] at W2
  clear hbu hb hnx
  go_wp2_with fail
  rw [← hP]
  have HP1 := Lib.hid hP
  clear hP
  refine HI2.out.mono ?_
  rintro e w3 ⟨ga, gn, rfl, hbu, hb⟩
  have hb2 : Below (w1.alloc (.cells #[.int .i64 K, .int .i64 0, .slice a4 n4 c4, .slice b4 m4 d4] 27)).heap.size (w1.alloc (.cells #[.int .i64 K, .int .i64 0, .slice a4 n4 c4, .slice b4 m4 d4] 27)) w3 := by rw [size_alloc', ← HP1.out]; exact hb
  obtain ⟨V, hV⟩ := built_relF hbu
  have HNS := Lib.hid (not_size hV)
  have HLQ := Lib.hid (show P + 1 ≤ w3.heap.size by have := hb2.size; rw [size_alloc', ← HP1.out] at this; exact this)
  have S3 := Lib.hid (show St w w.heap.size (fun _ => True) P K (.slice a4 n4 c4) (.slice b4 m4 d4) A N (P + 1) ga gn V w3.heap.size (boolF A) (intF N) (w3.alloc (.cells #[.int .i64 K, .int .i64 0, ga, gn] 27)) from
    ⟨base_box (base_step B2.out hb2) _, trivial, (W2.out.step hb2).step ((Below.refl _ _).alloc (Nat.le_refl _) _), hV.below ((Below.refl _ _).alloc (Nat.le_refl _) _), Kept.new _ _ _ _ _ _, HNS.out, Nat.lt_succ_self _, HWP.out, Nat.le_refl _, HLQ.out⟩)
  have G3 := Lib.hid (hbu.below ((Below.refl _ _).alloc (Nat.le_refl _) (.cells #[.int .i64 K, .int .i64 0, ga, gn] 27)))
  have WB := W2.out.step hb2
  obtain ⟨⟨q0, q1, q2, q3⟩, hlq⟩ := WB.box
  obtain ⟨a8, n8, c8, rfl, -⟩ := hbu.acc.shape'
  obtain ⟨items8, -, hnx, -⟩ := hbu.rows
  obtain ⟨b8, m8, d8, rfl, -⟩ := hnx.shape'
  clear hb hb2 hbu hnx hV WB HI2 B2 W2 HNS HLQ HP1
  go_wp2_with fail
  obtain ⟨Q, hQ⟩ : ∃ Q, Q = w3.heap.size := ⟨_, rfl⟩
  rw [← hQ]
  rw [← hQ] at S3
  clear hQ
  refine (eqRelation _ _ ⟨K, 0, A, N⟩ ⟨K, 0, A, N⟩ _ _ (G3.out.reads _ (Nat.le_refl _) K 0) S3.out.wk.read (Nat.le_refl _)).mono ?_
  rw [sameRel_self]
  rintro e w4 ⟨rfl, hb⟩
  have S4 := Lib.hid (S3.out.step HE.out hb)
  have HM2 := Lib.hid (markRel K 0 _ _ _ _ _ V _ _ 1 (P + 1) _ S4.out.relf S4.out.lL (by have := HTN.out; omega) (by omega) (by have := HTS.out; omega) (fun h => by have := HTS.out; omega))
  rw [← HPP.out] at HM2
  clear hb q0 q1 q2 q3 hlq S3 G3
  obtain ⟨⟨g0, g1, g2, g3⟩, hlg⟩ := S4.out.gb
  go_wp2_with fail
  refine HM2.out.mono ?_
  rintro e w5 ⟨rfl, hrf, ho⟩
  have S5 := Lib.hid (S4.out.markG HE.out ho hrf)
  have HH := Lib.hid (fun W (h : St w w.heap.size (fun _ => True) P K (.slice a4 n4 c4) (.slice b4 m4 d4) A N (P + 1) (.slice a8 n8 c8) (.slice b8 m8 d8) V Q (fun i => .bool (markB (1 + i))) (fun i c => .int .i64 ((1 + A.length + sumTo (lenF N) i + c : Nat) : Int)) W) =>
    heldRel K 0 _ _ A.length N.length V (lenF N) 1 (P + 1) W h.relf (by have := HTN.out; omega) (by omega) (by have := HTS.out; omega) (fun h => by have := HTS.out; omega))
  rw [← HPP.out] at HH
  clear ho hrf HM2 S4 g0 g1 g2 g3 hlg
  obtain ⟨⟨g0, g1, g2, g3⟩, hlg⟩ := S5.out.gb
  go_wp2_with fail
  refine (HH.out _ S5.out).mono ?_
  rintro e w6 ⟨rfl, hb⟩
  have S6 := Lib.hid (S5.out.step HE.out hb)
  clear hb S5 g0 g1 g2 g3 hlg
  go_wp2_with fail
  refine (HI.out _).mono ?_
  rintro e w7 ⟨ha, hn, rfl, hbu, hb⟩
  have H7 := Lib.hid (hbu.below ((Below.refl _ _).alloc (Nat.le_refl _) (.cells #[.int .i64 K, .int .i64 0, ha, hn] 27)))
  have S7 := S6.out.step HE.out hb
  have S8 := Lib.hid (S7.step HE.out ((Below.refl _ _).alloc (Nat.le_refl _) (.cells #[.int .i64 K, .int .i64 0, ha, hn] 27)))
  obtain ⟨⟨p0, p1, p2, p3⟩, hlp⟩ := S7.wk.box
  obtain ⟨a25, n25, c25, rfl, -⟩ := hbu.acc.shape'
  obtain ⟨items25, -, hnx, -⟩ := hbu.rows
  obtain ⟨b25, m25, d25, rfl, -⟩ := hnx.shape'
  clear hb hbu hnx S6 S7
  go_wp2_with fail
  refine (eqRelation _ _ ⟨K, 0, A, N⟩ ⟨K, 0, A, N⟩ _ _ (H7.out.reads _ (Nat.le_refl _) K 0) S8.out.wk.read (Nat.le_refl _)).mono ?_
  rw [sameRel_self]
  rintro e w9 ⟨rfl, hb⟩
  have S9 := Lib.hid (S8.out.step HE.out hb)
  clear hb H7 S8 p0 p1 p2 p3 hlp
  obtain ⟨⟨g0, g1, g2, g3⟩, hlg⟩ := S9.out.gb
  go_wp2_with fail
  refine (HH.out _ S9.out).mono ?_
  rintro e w10 ⟨rfl, hb⟩
  have B10 := Lib.hid (base_step S9.out.base hb)
  go_wp2_with fail
  go_ret
  exact ⟨rfl, B10.out⟩

theorem none_sum : 1 + ([] : List Bool).length + sumTo (lenF []) ([] : List (List Int)).length ≤ 5000 := by decide
theorem lawLen (w : World) (n : Int) (hw : (Lit.int .i64 n).wf = true) : Calls Try.prog 8 #[.int .i64 n] w fun e w' => e = .returned (.bool true) ∧ Below w.heap.size w w' := by
  by_cases h : n < 1 ∨ 3 < n
  · exact lawTLen n 0 2 [] [] (fun W => (specLenBad n h W).mono fun e w' ⟨he, hb⟩ => ⟨.slice none 0 0, .slice none 0 0, he, built_none _ _, hb⟩) (fun W => (implLenBad n h W).mono fun e w' ⟨he, hb⟩ => ⟨.slice none 0 0, .slice none 0 0, he, built_none _ _, hb⟩) none_sum (by decide) w
  · have : n = 1 ∨ n = 2 ∨ n = 3 := by omega
    rcases this with rfl | rfl | rfl
    · exact lawTLen 1 2 0 _ _ specLen1 implLen1 (tidyL_sum sLen1_ok lenLen1) (by have := tidyNext_len sLen1; have := lenLen1; omega) w
    · exact lawTLen 2 2 0 _ _ specLen2 implLen2 (tidyL_sum sLen2_ok lenLen2) (by have := tidyNext_len sLen2; have := lenLen2; omega) w
    · exact lawTLen 3 2 0 _ _ specLen3 implLen3 (tidyL_sum sLen3_ok lenLen3) (by have := tidyNext_len sLen3; have := lenLen3; omega) w
theorem lawAll (w : World) (n : Int) (hw : (Lit.int .i64 n).wf = true) : Calls Try.prog 9 #[.int .i64 n] w fun e w' => e = .returned (.bool true) ∧ Below w.heap.size w w' := by
  by_cases h : n < 1 ∨ 3 < n
  · exact lawTAll n 0 2 [] [] (fun W => (specAllBad n h W).mono fun e w' ⟨he, hb⟩ => ⟨.slice none 0 0, .slice none 0 0, he, built_none _ _, hb⟩) (fun W => (implAllBad n h W).mono fun e w' ⟨he, hb⟩ => ⟨.slice none 0 0, .slice none 0 0, he, built_none _ _, hb⟩) none_sum (by decide) w
  · obtain ⟨k, rfl⟩ : ∃ k : Nat, n = k := ⟨n.toNat, by omega⟩
    have h1 : 1 ≤ k := by omega
    have h3 : k ≤ 3 := by omega
    have hl : (tidyAcc (lAll k)).length ≤ 150 := lenAll k h1 h3
    exact lawTAll k k 0 _ _ (specAll k h1 h3) (implAll k h1 h3) (tidyL_sum (iAll_ok k h1 h3) hl) (by have h4 := tidyNext_len (lAll k); omega) w

end Go.Proofs.Ytboandmffkofaaa.ClosedLaws
