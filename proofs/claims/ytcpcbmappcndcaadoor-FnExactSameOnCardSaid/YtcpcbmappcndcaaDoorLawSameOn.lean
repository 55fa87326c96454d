
/- The law of SameOn: what the program answers is what the model answers, in memory of its own, and the argument stays as it was.
   Conditions: the argument is read as XRel's text says. -/
import Derived.Test.YtcpcbmappcndcaaDoorFX9
import Derived.Test.YtcpcbmappcndcaaDoorSO4
import Derived.Test.YtcpcbmappcndcaaDoorFX30
import Derived.Deep.RegionWith
namespace Go.Proofs.YtcpcbmappcndcaaDoor.LawSameOn
set_option linter.unusedVariables false
set_option linter.unusedSimpArgs false
open Go.RowKit Mem Copy Rel Valid Heap Bld MarkRow MarkBool MarkRows MarkRel MarkOf LawKit

set_option maxRecDepth 100000 in
set_option maxHeartbeats 8000000 in
theorem law (w : World) (v : Value) (r : R) (x y : Int) (hr : RelAt w w.heap.size v r) (K C : Int) (A : List Bool) (N : List (List Int))
    (hS : ∀ W v, RelAt W W.heap.size v r → Calls Tryd.prog 15 #[v, .int .i64 x, .int .i64 y] W fun e w' => ∃ va vn, e = .returned (.tuple #[.agg #[.int .i64 K, .int .i64 0, va, vn], .int .i64 C]) ∧ Built w' W.heap.size va vn A N ∧ Below W.heap.size W w')
    (hI : ∀ W v, Below w.heap.size w W → RelAt W W.heap.size v r → Calls Tryd.prog 16 #[v, .int .i64 x, .int .i64 y] W fun e w' => ∃ va vn, e = .returned (.tuple #[.agg #[.int .i64 K, .int .i64 0, va, vn], .int .i64 C]) ∧ Built w' W.heap.size va vn A N ∧ Below W.heap.size W w') (hT : 1 + A.length + sumTo (lenF N) N.length ≤ 5000) (hNl : N.length ≤ 5000) :
    Calls Tryd.prog 5 #[v, .int .i64 x, .int .i64 y] w fun e w' => e = .returned (.bool true) ∧ Below w.heap.size w w' := by
  have HRW := Lib.hid (fun W (h : Below w.heap.size w W) => hr.below h (Nat.le_refl _))
  obtain ⟨va, vn, rfl, -, -⟩ := hr
  have B0 := Lib.hid (base_box (Below.refl _ w) (.cells #[.int .i64 r.tapes, .int .i64 r.start, va, vn] 25))
  have F0 := Lib.hid (Kept.new w (.int .i64 r.tapes) (.int .i64 r.start) va vn 25)
  go_enter Tryd.func5, Tryd.ntmps5
  go_wp2_with fail
  refine (szRelation _ r 1048576 _ w.heap.size (HRW.out _ B0.out) B0.out.size (by omega) (by omega)).mono ?_
  rintro e w1 ⟨rfl, hb⟩
  have B1 := Lib.hid (base_step B0.out hb)
  have F1 := Lib.hid (F0.out.step hb)
  clear hb
  obtain ⟨⟨k0, k1, k2, k3⟩, -⟩ := F1.out
  obtain ⟨z, hz⟩ : ∃ z, z = szRel 1048576 r := ⟨_, rfl⟩
  rw [← hz]
  have HZ := Lib.hid hz
  clear hz
  by_cases hneg : z < 0
  · go_wp2_with fail
    go_ret
    exact ⟨rfl, B1.out⟩
  · have SH := Lib.hid (short_of (r := r) (by rw [← HZ.out]; omega))
    have SS := Lib.hid (szRel_sum (r := r) (by rw [← HZ.out]; omega))
    have HSO := Lib.hid hS
    have HIO := Lib.hid hI
    have HTS := Lib.hid hT
    have HTN := Lib.hid hNl
    have hcc : (C != C) = false := by simp
    clear hS hI hT hNl
    obtain ⟨p, hp⟩ : ∃ p, p = 1 + A.length + sumTo (lenF N) N.length := ⟨_, rfl⟩
    have hp0 : p ≤ 5000 := by rw [hp]; exact HTS.out
    have hpp : ((p : Int) != (p : Int)) = false := by simp
    have HPP := Lib.hid hp
    clear hp
    go_wp2_with fail
    refine (copyOwn _ r w1 w.heap.size (HRW.out _ B1.out) B1.out.size SH.out).mono ?_
    rintro e w3 ⟨M3, rfl, ho, hb⟩
    have B3 := Lib.hid (base_step B1.out hb)
    have F3 := Lib.hid (F1.out.step hb)
    have HS3 := Lib.hid (HSO.out w3 _ ho.reads)
    clear hb ho k0 k1 k2 k3 B1 F1 B0 F0
    go_wp2_with fail
    refine HS3.out.mono ?_
    rintro e w4 ⟨wa, wn, rfl, hbu, hb⟩
    have W5 := Lib.hid (WK.new (K := K) hbu 27)
    obtain ⟨a4, n4, c4, rfl, -⟩ := hbu.acc.shape'
    obtain ⟨items4, -, hnx, -⟩ := hbu.rows
    obtain ⟨b4, m4, d4, rfl, -⟩ := hnx.shape'
    have B4 := Lib.hid (base_step B3.out hb)
    have F4 := F3.out.step hb
    obtain ⟨⟨k0, k1, k2, k3⟩, hlt⟩ := F4
    have B5 := Lib.hid (base_box (base_step B3.out hb) (.cells #[.int .i64 K, .int .i64 0, .slice a4 n4 c4, .slice b4 m4 d4] 27))
    have F5 := Lib.hid ((F3.out.step hb).box (.cells #[.int .i64 K, .int .i64 0, .slice a4 n4 c4, .slice b4 m4 d4] 27))
    clear hb hbu hnx HS3 B3 F3
    go_wp2_with fail
    refine (copyOwn' _ r _ w.heap.size (HRW.out _ B5.out) B5.out.size SH.out).mono ?_
    rintro e w6 ⟨M, rfl, ho, hb, hM⟩
    obtain ⟨P, hP⟩ : ∃ P, P = w4.heap.size := ⟨_, rfl⟩
    have hPM : P < M := by rw [size_alloc'] at hM; omega
    have hwP : w.heap.size ≤ P := by rw [hP]; exact B4.out.size
    have HPM := Lib.hid hPM
    have HWP := Lib.hid hwP
    rw [← hP] at W5
    have B6 := Lib.hid (base_step B5.out hb)
    have F6 := Lib.hid (F5.out.step hb)
    have W6 := Lib.hid (W5.out.step hb)
    have O6 := Lib.hid ho
    have B7 := Lib.hid (base_box B6.out (.cells #[.int .i64 r.tapes, .int .i64 r.start, .slice (some ⟨M, 0, none⟩) r.accept.length r.accept.length, .slice (some ⟨M + 1, 0, none⟩) r.next.length r.next.length] 27))
    have F7 := Lib.hid (F6.out.box (.cells #[.int .i64 r.tapes, .int .i64 r.start, .slice (some ⟨M, 0, none⟩) r.accept.length r.accept.length, .slice (some ⟨M + 1, 0, none⟩) r.next.length r.next.length] 27))
    have W7 := Lib.hid (W6.out.step ((Below.refl _ _).alloc (Nat.le_refl _) (.cells #[.int .i64 r.tapes, .int .i64 r.start, .slice (some ⟨M, 0, none⟩) r.accept.length r.accept.length, .slice (some ⟨M + 1, 0, none⟩) r.next.length r.next.length] 27)))
    have O7 := Lib.hid (O6.out.box (.cells #[.int .i64 r.tapes, .int .i64 r.start, .slice (some ⟨M, 0, none⟩) r.accept.length r.accept.length, .slice (some ⟨M + 1, 0, none⟩) r.next.length r.next.length] 27))
    have X7 := Lib.hid (Kept.new w6 (.int .i64 r.tapes) (.int .i64 r.start) (.slice (some ⟨M, 0, none⟩) r.accept.length r.accept.length) (.slice (some ⟨M + 1, 0, none⟩) r.next.length r.next.length) 27)
    have HI7 := Lib.hid (HIO.out _ _ B7.out O7.out.reads)
    have hlt6 : w.heap.size < w6.heap.size := F6.out.lt
    clear ho hb hM k0 k1 k2 k3 hlt hPM hwP B4 B5 F5 W5
    go_wp2_with fail
    rw [← hP]
    clear hP
    refine HI7.out.mono ?_
    rintro e w8 ⟨ga, gn, rfl, hbu, hb⟩
    obtain ⟨X, hX⟩ : ∃ X, X = w6.heap.size := ⟨_, rfl⟩
    have hsz : (w6.alloc (.cells #[.int .i64 r.tapes, .int .i64 r.start, .slice (some ⟨M, 0, none⟩) r.accept.length r.accept.length, .slice (some ⟨M + 1, 0, none⟩) r.next.length r.next.length] 27)).heap.size = X + 1 := by rw [size_alloc', hX]
    rw [hsz] at hbu
    rw [← hX] at X7
    have HMX := Lib.hid (show M + 2 + r.next.length ≤ X by rw [hX]; exact O6.out.top)
    obtain ⟨V, hV⟩ := built_relF hbu
    have HNS := Lib.hid (not_size hV)
    have B8 := Lib.hid (base_step B7.out hb)
    have HX8 := Lib.hid (show X + 1 ≤ w8.heap.size by rw [← hsz]; exact hb.size)
    have CK8 := Lib.hid (show Ck w r va vn P K (.slice a4 n4 c4) (.slice b4 m4 d4) A N (X + 1) ga gn V w8.heap.size M X (w8.alloc (.cells #[.int .i64 K, .int .i64 0, ga, gn] 27)) from
      ⟨⟨base_box B8.out _, (F7.out.step hb).box _, (W7.out.step hb).step ((Below.refl _ _).alloc (Nat.le_refl _) _), hV.below ((Below.refl _ _).alloc (Nat.le_refl _) _), Kept.new _ _ _ _ _ _, HNS.out,
        by have h1 := HPM.out; have h2 := HMX.out; omega, by have h1 := HPM.out; have h2 := HMX.out; have h3 := HWP.out; omega, HX8.out⟩,
       hbu.below ((Below.refl _ _).alloc (Nat.le_refl _) _), (O7.out.step hb).box _, (X7.out.step hb).box _⟩)
    have WB := W7.out.step hb
    obtain ⟨⟨q0, q1, q2, q3⟩, hlq⟩ := WB.box
    obtain ⟨a8, n8, c8, rfl, -⟩ := hbu.acc.shape'
    obtain ⟨items8, -, hnx, -⟩ := hbu.rows
    obtain ⟨b8, m8, d8, rfl, -⟩ := hnx.shape'
    clear hb hbu hnx hV hsz hlt6 WB HI7 B6 B7 B8 F6 F7 W6 W7 O6 O7 X7 HNS
    go_wp2_with fail
    rw [← hX]
    clear hX
    refine (eqRelation _ _ ⟨K, 0, A, N⟩ ⟨K, 0, A, N⟩ _ _ (CK8.out.built.reads _ (Nat.le_refl _) K 0) CK8.out.st.wk.read (Nat.le_refl _)).mono ?_
    rw [sameRel_self]
    rintro e w10 ⟨rfl, hb⟩
    obtain ⟨Q, hQ⟩ : ∃ Q, Q = w8.heap.size := ⟨_, rfl⟩
    rw [← hQ] at CK8
    have CK10 := Lib.hid (CK8.out.step hb)
    clear hb q0 q1 q2 q3 hlq HX8 CK8
    obtain ⟨⟨q0, q1, q2, q3⟩, hlq⟩ := CK10.out.xb
    obtain ⟨⟨k0, k1, k2, k3⟩, hlk⟩ := CK10.out.st.arg
    go_upto_region 10 with fail
    rw [← hQ]
    clear hQ
    go_cut [53] (fun v53 wx => v53 = .bool false ∧ Ck w r va vn P K (.slice a4 n4 c4) (.slice b4 m4 d4) A N (X + 1) (.slice a8 n8 c8) (.slice b8 m8 d8) V Q M X wx)
    case first =>
      go_region_with (first
        | (go_at_call 8; refine (copyOwn _ r _ w.heap.size (HRW.out _ CK10.out.drew.st.base) CK10.out.drew.st.base.size SH.out).mono ?_; rintro e w11 ⟨M11, rfl, ho, hb⟩; have CK11 := Lib.hid (CK10.out.drew.step hb); have O11 := Lib.hid ho; obtain ⟨⟨p0, p1, p2, p3⟩, -⟩ := CK11.out.xb; clear hb ho)
        | (go_at_call 10; refine (eqRelation _ _ r r w11 w11.heap.size CK11.out.own.reads O11.out.reads (Nat.le_refl _)).mono ?_; rw [sameRel_self]; rintro e w12 ⟨rfl, hb⟩; have CK12 := Lib.hid (CK11.out.step hb); clear hb p0 p1 p2 p3))
      all_goals
        go_wp2_with fail
        go_meet
        exact ⟨rfl, CK12.out⟩
    case rest =>
      obtain ⟨rfl, hck⟩ := hcut
      have CK := Lib.hid hck
      obtain ⟨V', hRF, hin⟩ := own_relF hck.own
      have HIN := Lib.hid hin
      obtain ⟨q, hq⟩ : ∃ q, q = 1 + r.accept.length + sumTo (lenF r.next) r.next.length := ⟨_, rfl⟩
      have hq0 : q ≤ 1048577 := by have := SS.out; omega
      have HMK := Lib.hid (markRel r.tapes r.start _ _ _ _ _ V' _ _ 1 M _ hRF (by have := hck.own.top; omega) (by have := SS.out; omega) (by omega) (by have := SS.out; omega) (fun h => by have := SS.out; omega))
      rw [← hq] at HMK
      clear q0 q1 q2 q3 hlq k0 k1 k2 k3 hlk hq hRF hin CK10
      obtain ⟨⟨q0, q1, q2, q3⟩, hlq⟩ := hck.xb
      clear hck
      go_wp2_with fail
      refine HMK.out.mono ?_
      rintro e w13 ⟨rfl, -, ho⟩
      have S13 := Lib.hid (CK.out.st.markX ho (fun b hb => by have h1 := HIN.out b hb; have h2 := HPM.out; have h3 := HWP.out; have h4 := HMX.out; omega))
      have G13 := Lib.hid (built_only CK.out.built ho (fun b hb => by have h1 := HIN.out b hb; have h4 := HMX.out; omega))
      clear ho HMK HIN CK q0 q1 q2 q3 hlq
      obtain ⟨⟨g0, g1, g2, g3⟩, hlg⟩ := S13.out.gb
      obtain ⟨⟨p0, p1, p2, p3⟩, hlp⟩ := S13.out.wk.box
      go_wp2_with fail
      refine (eqRelation _ _ ⟨K, 0, A, N⟩ ⟨K, 0, A, N⟩ _ _ (G13.out.reads _ (Nat.le_refl _) K 0) S13.out.wk.read (Nat.le_refl _)).mono ?_
      rw [sameRel_self]
      rintro e w14 ⟨rfl, hb⟩
      have S14 := Lib.hid (S13.out.step hb)
      have HM2 := Lib.hid (markRel K 0 _ _ _ _ _ V _ _ 1 (X + 1) _ S14.out.relf S14.out.lL (by have := HTN.out; omega) (by omega) (by have := HTS.out; omega) (fun h => by have := HTS.out; omega))
      rw [← HPP.out] at HM2
      clear hb G13 S13 g0 g1 g2 g3 hlg p0 p1 p2 p3 hlp
      obtain ⟨⟨g0, g1, g2, g3⟩, hlg⟩ := S14.out.gb
      go_wp2_with fail
      refine HM2.out.mono ?_
      rintro e w17 ⟨rfl, hrf, ho⟩
      have S17 := Lib.hid (S14.out.markG ho hrf)
      have HH := Lib.hid (fun W (h : St w r.tapes r.start va vn P K (.slice a4 n4 c4) (.slice b4 m4 d4) A N (X + 1) (.slice a8 n8 c8) (.slice b8 m8 d8) V Q (fun i => .bool (markB (1 + i))) (fun i c => .int .i64 ((1 + A.length + sumTo (lenF N) i + c : Nat) : Int)) W) =>
        heldRel K 0 _ _ A.length N.length V (lenF N) 1 (X + 1) W h.relf (by have := HTN.out; omega) (by omega) (by have := HTS.out; omega) (fun h => by have := HTS.out; omega))
      rw [← HPP.out] at HH
      clear ho hrf HM2 S14 g0 g1 g2 g3 hlg
      obtain ⟨⟨g0, g1, g2, g3⟩, hlg⟩ := S17.out.gb
      go_wp2_with fail
      refine (HH.out _ S17.out).mono ?_
      rintro e w19 ⟨rfl, hb⟩
      have S19 := Lib.hid (S17.out.step hb)
      clear hb S17 g0 g1 g2 g3 hlg
      obtain ⟨⟨k0, k1, k2, k3⟩, hlk⟩ := S19.out.arg
      go_wp2_with fail
      refine (copyOwn _ r _ w.heap.size (HRW.out _ S19.out.base) S19.out.base.size SH.out).mono ?_
      rintro e w24 ⟨M24, rfl, ho, hb⟩
      have S24 := Lib.hid (S19.out.step hb)
      have HI24 := Lib.hid (HIO.out _ _ S24.out.base ho.reads)
      clear hb ho S19 k0 k1 k2 k3 hlk
      go_wp2_with fail
      refine HI24.out.mono ?_
      rintro e w25 ⟨ha, hn, rfl, hbu, hb⟩
      have H25 := Lib.hid (hbu.below ((Below.refl _ _).alloc (Nat.le_refl _) (.cells #[.int .i64 K, .int .i64 0, ha, hn] 27)))
      have S25 := S24.out.step hb
      have S26 := Lib.hid (S25.step ((Below.refl _ _).alloc (Nat.le_refl _) (.cells #[.int .i64 K, .int .i64 0, ha, hn] 27)))
      obtain ⟨⟨p0, p1, p2, p3⟩, hlp⟩ := S25.wk.box
      obtain ⟨a25, n25, c25, rfl, -⟩ := hbu.acc.shape'
      obtain ⟨items25, -, hnx, -⟩ := hbu.rows
      obtain ⟨b25, m25, d25, rfl, -⟩ := hnx.shape'
      clear hb hbu hnx S24 S25 HI24
      go_wp2_with fail
      refine (eqRelation _ _ ⟨K, 0, A, N⟩ ⟨K, 0, A, N⟩ _ _ (H25.out.reads _ (Nat.le_refl _) K 0) S26.out.wk.read (Nat.le_refl _)).mono ?_
      rw [sameRel_self]
      rintro e w27 ⟨rfl, hb⟩
      have S27 := Lib.hid (S26.out.step hb)
      clear hb H25 S26 p0 p1 p2 p3 hlp
      obtain ⟨⟨g0, g1, g2, g3⟩, hlg⟩ := S27.out.gb
      go_wp2_with fail
      refine (HH.out _ S27.out).mono ?_
      rintro e w28 ⟨rfl, hb⟩
      have B28 := Lib.hid (base_step S27.out.base hb)
      go_wp2_with fail
      go_ret
      exact ⟨rfl, B28.out⟩
theorem none_sum : 1 + ([] : List Bool).length + sumTo (lenF []) ([] : List (List Int)).length ≤ 5000 := by decide
theorem few_sum {l : TidyRight.L} (hl : l.Ok) : 1 + (ImplTidied.fewA l 150).length + sumTo (lenF (ImplTidied.fewN l 150)) (ImplTidied.fewN l 150).length ≤ 5000 := by
  unfold ImplTidied.fewA ImplTidied.fewN
  cases h : ImplTidied.fewB l 150 with
  | false => exact none_sum
  | true => exact ResKit.tidyL_sum hl (of_decide_eq_true h)
theorem few_len {l : TidyRight.L} (hl : l.Ok) : (ImplTidied.fewN l 150).length ≤ 5000 := by
  unfold ImplTidied.fewN
  cases h : ImplTidied.fewB l 150 with
  | false => exact Nat.zero_le _
  | true =>
    have h1 : (TidyRight.tidyAcc l).length ≤ 150 := of_decide_eq_true h
    have h2 := ResKit.tidyNext_len l
    show (TidyRight.tidyNext l).length ≤ 5000
    omega
theorem ans_sum {c : Int} {l : TidyRight.L} (hl : c = 0 → l.Ok) : 1 + (TapeFn.ansA c l).length + sumTo (lenF (TapeFn.ansN c l)) (TapeFn.ansN c l).length ≤ 5000 := by
  unfold TapeFn.ansA TapeFn.ansN
  by_cases h : c = 0
  · rw [if_pos h, if_pos h]; exact few_sum (hl h)
  · rw [if_neg h, if_neg h]; exact none_sum
theorem ans_len {c : Int} {l : TidyRight.L} (hl : c = 0 → l.Ok) : (TapeFn.ansN c l).length ≤ 5000 := by
  unfold TapeFn.ansN
  by_cases h : c = 0
  · rw [if_pos h]; exact few_len (hl h)
  · rw [if_neg h]; exact Nat.zero_le _
theorem same_law_ok (r : R) (x y : Int) (h : SameFn.sameC r x y = 0) : (SameFn.sameX r x y).Ok := SameMath.ex_ok (SpecTidyRel.okL (SameFn.same_ok h).1).1.2 _ _
theorem lawDoor (w : World) (hg : ErrCode.Laid w) (v : Value) (r : R) (hr : RelAt w w.heap.size v r) (x : Int) (hx : (Lit.int IntKind.i64 x).wf = true) (y : Int) (hy : (Lit.int IntKind.i64 y).wf = true) :
    Calls Tryd.prog 5 #[v, .int .i64 x, .int .i64 y] w fun e w' => e = .returned (.bool true) ∧ Below w.heap.size w w' :=
  law w v r x y hr (TapeFn.ansK (SameFn.sameC r x y) (SameFn.sameX r x y)) (TapeFn.ansC (SameFn.sameC r x y) (SameFn.sameX r x y)) (TapeFn.ansA (SameFn.sameC r x y) (SameFn.sameX r x y)) (TapeFn.ansN (SameFn.sameC r x y) (SameFn.sameX r x y)) (fun W v h => SameS.specSame v r x y W W.heap.size h (Nat.le_refl _)) (fun W v hb h => SameFn.implSame v r x y W W.heap.size h (Nat.le_refl _) (hg.below hb)) (ans_sum (same_law_ok r x y)) (ans_len (same_law_ok r x y))
end Go.Proofs.YtcpcbmappcndcaaDoor.LawSameOn
