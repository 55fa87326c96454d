
/- The law of NumberDomain.
   Conditions: none. -/
import Derived.Test.YtpdplfgljjkjbaaNumDom
namespace Go.Proofs.Ytpdplfgljjkjbaa.NumDomLaw
set_option linter.unusedVariables false
set_option linter.unusedSimpArgs false
set_option maxRecDepth 100000
open Go.RowKit Mem Copy Rel Valid Heap Bld ColMath Columns Numbers ToL TidyAuto TidyRight SpecRight SpecTidyRel ImplRight Automaton Sim ResKit ClosedImpl NumDom MarkRow MarkBool MarkRows MarkRel MarkOf LawKit

set_option maxHeartbeats 8000000 in
theorem lawNum (w : World) : Calls Try.prog 10 #[] w fun e w' => e = .returned (.bool true) ∧ Below w.heap.size w w' := by
  have hE : Keeps w.heap.size (fun _ => True) := fun _ _ _ _ => trivial
  have HE := Lib.hid hE
  have HS := Lib.hid (fun W => specNum W)
  have HI := Lib.hid (fun W => implNum W)
  have HTS := Lib.hid (tidyL_sum iNum_ok lenNum)
  have hnl := tidyNext_len iNum
  have hal := lenNum
  obtain ⟨A, hA⟩ : ∃ A, A = tidyAcc iNum := ⟨_, rfl⟩
  obtain ⟨N, hN⟩ : ∃ N, N = tidyNext iNum := ⟨_, rfl⟩
  rw [← hA, ← hN] at HS HI HTS hnl
  rw [← hA] at hal
  have HTN := Lib.hid (show N.length ≤ 5000 by omega)
  clear hA hN hnl hal hE
  obtain ⟨p, hp⟩ : ∃ p, p = 1 + A.length + sumTo (lenF N) N.length := ⟨_, rfl⟩
  have hp0 : p ≤ 5000 := by rw [hp]; exact HTS.out
  have hpp : ((p : Int) != (p : Int)) = false := by simp
  have HPP := Lib.hid hp
  clear hp
  go_enter Try.func10, Try.ntmps10
  go_wp2_with fail
  refine (HS.out _).mono ?_
  rintro e w1 ⟨wa, wn, rfl, hbu, hb⟩
  have W2 := Lib.hid (WK.new (K := 1) hbu 27)
  obtain ⟨a4, n4, c4, rfl, -⟩ := hbu.acc.shape'
  obtain ⟨items4, -, hnx, -⟩ := hbu.rows
  obtain ⟨b4, m4, d4, rfl, -⟩ := hnx.shape'
  have B2 := Lib.hid (base_box (base_step (Below.refl _ w) hb) (.cells #[.int .i64 1, .int .i64 0, .slice a4 n4 c4, .slice b4 m4 d4] 27))
  obtain ⟨P, hP⟩ : ∃ P, P = w1.heap.size := ⟨_, rfl⟩
  have HWP := Lib.hid (show w.heap.size ≤ P by rw [hP]; exact hb.size)
  have HI2 := HI.out (w1.alloc (.cells #[.int .i64 1, .int .i64 0, .slice a4 n4 c4, .slice b4 m4 d4] 27))
  rw [size_alloc', ← hP] at HI2
  have HI2 := Lib.hid HI2
  rw [← hP] at W2
  clear hbu hb hnx
  go_wp2_with fail
  rw [← hP]
  have HP1 := Lib.hid hP
  clear hP
  refine HI2.out.mono ?_
  rintro e w3 ⟨ga, gn, rfl, hbu, hb⟩
  have hb2 : Below (w1.alloc (.cells #[.int .i64 1, .int .i64 0, .slice a4 n4 c4, .slice b4 m4 d4] 27)).heap.size (w1.alloc (.cells #[.int .i64 1, .int .i64 0, .slice a4 n4 c4, .slice b4 m4 d4] 27)) w3 := by rw [size_alloc', ← HP1.out]; exact hb
  obtain ⟨V, hV⟩ := built_relF hbu
  have HNS := Lib.hid (not_size hV)
  have HLQ := Lib.hid (show P + 1 ≤ w3.heap.size by have := hb2.size; rw [size_alloc', ← HP1.out] at this; exact this)
  have S3 := Lib.hid (show St w w.heap.size (fun _ => True) P 1 (.slice a4 n4 c4) (.slice b4 m4 d4) A N (P + 1) ga gn V w3.heap.size (boolF A) (intF N) (w3.alloc (.cells #[.int .i64 1, .int .i64 0, ga, gn] 27)) from
    ⟨base_box (base_step B2.out hb2) _, trivial, (W2.out.step hb2).step ((Below.refl _ _).alloc (Nat.le_refl _) _), hV.below ((Below.refl _ _).alloc (Nat.le_refl _) _), Kept.new _ _ _ _ _ _, HNS.out, Nat.lt_succ_self _, HWP.out, Nat.le_refl _, HLQ.out⟩)
  have G3 := Lib.hid (hbu.below ((Below.refl _ _).alloc (Nat.le_refl _) (.cells #[.int .i64 1, .int .i64 0, ga, gn] 27)))
  have WB := W2.out.step hb2
  obtain ⟨⟨q0, q1, q2, q3⟩, hlq⟩ := WB.box
  obtain ⟨a8, n8, c8, rfl, -⟩ := hbu.acc.shape'
  obtain ⟨items8, -, hnx, -⟩ := hbu.rows
  obtain ⟨b8, m8, d8, rfl, -⟩ := hnx.shape'
  clear hb hb2 hbu hnx hV WB HI2 B2 W2 HNS HLQ HP1
  go_wp2_with fail
  obtain ⟨Q, hQ⟩ : ∃ Q, Q = w3.heap.size := ⟨_, rfl⟩
  rw [← hQ]
  rw [← hQ] at S3
  clear hQ
  refine (eqRelation _ _ ⟨1, 0, A, N⟩ ⟨1, 0, A, N⟩ _ _ (G3.out.reads _ (Nat.le_refl _) 1 0) S3.out.wk.read (Nat.le_refl _)).mono ?_
  rw [sameRel_self]
  rintro e w4 ⟨rfl, hb⟩
  have S4 := Lib.hid (S3.out.step HE.out hb)
  have HM2 := Lib.hid (markRel 1 0 _ _ _ _ _ V _ _ 1 (P + 1) _ S4.out.relf S4.out.lL (by have := HTN.out; omega) (by omega) (by have := HTS.out; omega) (fun h => by have := HTS.out; omega))
  rw [← HPP.out] at HM2
  clear hb q0 q1 q2 q3 hlq S3 G3
  obtain ⟨⟨g0, g1, g2, g3⟩, hlg⟩ := S4.out.gb
  go_wp2_with fail
  refine HM2.out.mono ?_
  rintro e w5 ⟨rfl, hrf, ho⟩
  have S5 := Lib.hid (S4.out.markG HE.out ho hrf)
  have HH := Lib.hid (fun W (h : St w w.heap.size (fun _ => True) P 1 (.slice a4 n4 c4) (.slice b4 m4 d4) A N (P + 1) (.slice a8 n8 c8) (.slice b8 m8 d8) V Q (fun i => .bool (markB (1 + i))) (fun i c => .int .i64 ((1 + A.length + sumTo (lenF N) i + c : Nat) : Int)) W) =>
    heldRel 1 0 _ _ A.length N.length V (lenF N) 1 (P + 1) W h.relf (by have := HTN.out; omega) (by omega) (by have := HTS.out; omega) (fun h => by have := HTS.out; omega))
  rw [← HPP.out] at HH
  clear ho hrf HM2 S4 g0 g1 g2 g3 hlg
  obtain ⟨⟨g0, g1, g2, g3⟩, hlg⟩ := S5.out.gb
  go_wp2_with fail
  refine (HH.out _ S5.out).mono ?_
  rintro e w6 ⟨rfl, hb⟩
  have S6 := Lib.hid (S5.out.step HE.out hb)
  clear hb S5 g0 g1 g2 g3 hlg
  go_wp2_with fail
  refine (HI.out _).mono ?_
  rintro e w7 ⟨ha, hn, rfl, hbu, hb⟩
  have H7 := Lib.hid (hbu.below ((Below.refl _ _).alloc (Nat.le_refl _) (.cells #[.int .i64 1, .int .i64 0, ha, hn] 27)))
  have S7 := S6.out.step HE.out hb
  have S8 := Lib.hid (S7.step HE.out ((Below.refl _ _).alloc (Nat.le_refl _) (.cells #[.int .i64 1, .int .i64 0, ha, hn] 27)))
  obtain ⟨⟨p0, p1, p2, p3⟩, hlp⟩ := S7.wk.box
  obtain ⟨a25, n25, c25, rfl, -⟩ := hbu.acc.shape'
  obtain ⟨items25, -, hnx, -⟩ := hbu.rows
  obtain ⟨b25, m25, d25, rfl, -⟩ := hnx.shape'
  clear hb hbu hnx S6 S7
  go_wp2_with fail
  refine (eqRelation _ _ ⟨1, 0, A, N⟩ ⟨1, 0, A, N⟩ _ _ (H7.out.reads _ (Nat.le_refl _) 1 0) S8.out.wk.read (Nat.le_refl _)).mono ?_
  rw [sameRel_self]
  rintro e w9 ⟨rfl, hb⟩
  have S9 := Lib.hid (S8.out.step HE.out hb)
  clear hb H7 S8 p0 p1 p2 p3 hlp
  obtain ⟨⟨g0, g1, g2, g3⟩, hlg⟩ := S9.out.gb
  go_wp2_with fail
  refine (HH.out _ S9.out).mono ?_
  rintro e w10 ⟨rfl, hb⟩
  have B10 := Lib.hid (base_step S9.out.base hb)
  go_wp2_with fail
  go_ret
  exact ⟨rfl, B10.out⟩

end Go.Proofs.Ytpdplfgljjkjbaa.NumDomLaw
