
/- The law of MoveTapes: what the program answers is what the model answers, in memory of its own, and the argument stays as it was.
   Conditions: the argument is read as XRel's text says. -/
import Derived.Test.YtgaipjofhkijbaaDoorIM9
import Derived.Test.YtgaipjofhkijbaaDoorMV2
import Derived.Test.YtgaipjofhkijbaaDoorIM3
import Derived.Test.YtgaipjofhkijbaaDoorIM26
import Derived.Deep.RegionWith
namespace Go.Proofs.YtgaipjofhkijbaaDoor.LawMoveTapes
set_option linter.unusedVariables false
set_option linter.unusedSimpArgs false
open Go.RowKit Mem Copy Rel Valid Heap Bld MarkRow MarkBool MarkRows MarkRel MarkOf LawKit Equal MarkIntsB

set_option maxRecDepth 100000 in
set_option maxHeartbeats 8000000 in
theorem law (w : World) (v : Value) (r : R) (hr : RelAt w w.heap.size v r) (o : List Int) (ov : Value) (hov : Ints w w.heap.size ov o) (K C : Int) (A : List Bool) (N : List (List Int))
    (hS : ∀ W v ov, RelAt W W.heap.size v r → Ints W W.heap.size ov o → Calls Tryd.prog 14 #[v, ov] W fun e w' => ∃ va vn, e = .returned (.tuple #[.agg #[.int .i64 K, .int .i64 0, va, vn], .int .i64 C]) ∧ Built w' W.heap.size va vn A N ∧ Below W.heap.size W w')
    (hI : ∀ W v ov, Below w.heap.size w W → RelAt W W.heap.size v r → Ints W W.heap.size ov o → Calls Tryd.prog 16 #[v, ov] W fun e w' => ∃ va vn, e = .returned (.tuple #[.agg #[.int .i64 K, .int .i64 0, va, vn], .int .i64 C]) ∧ Built w' W.heap.size va vn A N ∧ Below W.heap.size W w') (hT : 1 + A.length + sumTo (lenF N) N.length ≤ 5000) (hNl : N.length ≤ 5000) :
    Calls Tryd.prog 4 #[v, ov] w fun e w' => e = .returned (.bool true) ∧ Below w.heap.size w w' := by
  have HRW := Lib.hid (fun W (h : Below w.heap.size w W) => hr.below h (Nat.le_refl _))
  have HOW := Lib.hid (fun W (h : Below w.heap.size w W) => hov.below h (Nat.le_refl _))
  obtain ⟨ao, bo, oo, co, rfl, hmo, -, -⟩ := hov
  have hmb : o.length ≤ 9223372036854775807 := by unfold maxLen at hmo; omega
  clear hmo
  obtain ⟨va, vn, rfl, -, -⟩ := hr
  have B0 := Lib.hid (base_box (Below.refl _ w) (.cells #[.int .i64 r.tapes, .int .i64 r.start, va, vn] 25))
  have F0 := Lib.hid (Kept.new w (.int .i64 r.tapes) (.int .i64 r.start) va vn 25)
  go_enter Tryd.func4, Tryd.ntmps4
  by_cases hbig : 1048576 < o.length
  · have hbd : decide ((1048576 : Int) < (o.length : Int)) = true := by simp; omega
    go_wp2_with fail
    go_ret
    exact ⟨rfl, B0.out⟩
  have hbd : decide ((1048576 : Int) < (o.length : Int)) = false := by simp; omega
  have HOL := Lib.hid (show o.length ≤ 1048576 by omega)
  clear hbig
  go_wp2_with fail
  refine (szRelation _ r 1048576 _ w.heap.size (HRW.out _ B0.out) B0.out.size (by omega) (by omega)).mono ?_
  rintro e w1 ⟨rfl, hb⟩
  have B1 := Lib.hid (base_step B0.out hb)
  have F1 := Lib.hid (F0.out.step hb)
  clear hb
  obtain ⟨⟨k0, k1, k2, k3⟩, -⟩ := F1.out
  obtain ⟨z, hz⟩ : ∃ z, z = szRel 1048576 r := ⟨_, rfl⟩
  rw [← hz]
  have HZ := Lib.hid hz
  clear hz
  by_cases hneg : z < 0
  · go_wp2_with fail
    go_ret
    exact ⟨rfl, B1.out⟩
  · have SH := Lib.hid (short_of (r := r) (by rw [← HZ.out]; omega))
    have SS := Lib.hid (szRel_sum (r := r) (by rw [← HZ.out]; omega))
    have HSO := Lib.hid hS
    have HIO := Lib.hid hI
    have HTS := Lib.hid hT
    have HTN := Lib.hid hNl
    have hcc : (C != C) = false := by simp
    clear hS hI hT hNl
    obtain ⟨p, hp⟩ : ∃ p, p = 1 + A.length + sumTo (lenF N) N.length := ⟨_, rfl⟩
    have hp0 : p ≤ 5000 := by rw [hp]; exact HTS.out
    have hpp : ((p : Int) != (p : Int)) = false := by simp
    have HPP := Lib.hid hp
    clear hp
    go_wp2_with fail
    refine (copyOwn _ r w1 w.heap.size (HRW.out _ B1.out) B1.out.size SH.out).mono ?_
    rintro e w3 ⟨M3, rfl, ho, hb⟩
    have B3 := Lib.hid (base_step B1.out hb)
    have F3 := Lib.hid (F1.out.step hb)
    have O3 := Lib.hid ho
    clear hb ho k0 k1 k2 k3 B1 F1 B0 F0
    go_wp2_with fail
    refine (copyI _ o w3 w.heap.size (HOW.out _ B3.out) B3.out.size HOL.out).mono ?_
    rintro e w3' ⟨M4, hM4, rfl, hoi, hb⟩
    have B3 := Lib.hid (base_step B3.out hb)
    have F3 := Lib.hid (F3.out.step hb)
    have HS3 := Lib.hid (HSO.out w3' _ _ (O3.out.step hb).reads hoi.reads)
    clear hb hoi O3 hM4
    go_wp2_with fail
    refine HS3.out.mono ?_
    rintro e w4 ⟨wa, wn, rfl, hbu, hb⟩
    have W5 := Lib.hid (WK.new (K := K) hbu 27)
    obtain ⟨a4, n4, c4, rfl, -⟩ := hbu.acc.shape'
    obtain ⟨items4, -, hnx, -⟩ := hbu.rows
    obtain ⟨b4, m4, d4, rfl, -⟩ := hnx.shape'
    have B4 := Lib.hid (base_step B3.out hb)
    have F4 := F3.out.step hb
    obtain ⟨⟨k0, k1, k2, k3⟩, hlt⟩ := F4
    have B5 := Lib.hid (base_box (base_step B3.out hb) (.cells #[.int .i64 K, .int .i64 0, .slice a4 n4 c4, .slice b4 m4 d4] 27))
    have F5 := Lib.hid ((F3.out.step hb).box (.cells #[.int .i64 K, .int .i64 0, .slice a4 n4 c4, .slice b4 m4 d4] 27))
    clear hb hbu hnx HS3 B3 F3
    go_wp2_with fail
    refine (copyOwn' _ r _ w.heap.size (HRW.out _ B5.out) B5.out.size SH.out).mono ?_
    rintro e w6 ⟨M, rfl, ho, hb, hM⟩
    obtain ⟨P, hP⟩ : ∃ P, P = w4.heap.size := ⟨_, rfl⟩
    have hPM : P < M := by rw [size_alloc'] at hM; omega
    have hwP : w.heap.size ≤ P := by rw [hP]; exact B4.out.size
    have HPM := Lib.hid hPM
    have HWP := Lib.hid hwP
    rw [← hP] at W5
    have B6 := Lib.hid (base_step B5.out hb)
    have F6 := Lib.hid (F5.out.step hb)
    have W6 := Lib.hid (W5.out.step hb)
    have O6 := Lib.hid ho
    have B7 := Lib.hid (base_box B6.out (.cells #[.int .i64 r.tapes, .int .i64 r.start, .slice (some ⟨M, 0, none⟩) r.accept.length r.accept.length, .slice (some ⟨M + 1, 0, none⟩) r.next.length r.next.length] 27))
    have F7 := Lib.hid (F6.out.box (.cells #[.int .i64 r.tapes, .int .i64 r.start, .slice (some ⟨M, 0, none⟩) r.accept.length r.accept.length, .slice (some ⟨M + 1, 0, none⟩) r.next.length r.next.length] 27))
    have W7 := Lib.hid (W6.out.step ((Below.refl _ _).alloc (Nat.le_refl _) (.cells #[.int .i64 r.tapes, .int .i64 r.start, .slice (some ⟨M, 0, none⟩) r.accept.length r.accept.length, .slice (some ⟨M + 1, 0, none⟩) r.next.length r.next.length] 27)))
    have O7 := Lib.hid (O6.out.box (.cells #[.int .i64 r.tapes, .int .i64 r.start, .slice (some ⟨M, 0, none⟩) r.accept.length r.accept.length, .slice (some ⟨M + 1, 0, none⟩) r.next.length r.next.length] 27))
    have X7 := Lib.hid (Kept.new w6 (.int .i64 r.tapes) (.int .i64 r.start) (.slice (some ⟨M, 0, none⟩) r.accept.length r.accept.length) (.slice (some ⟨M + 1, 0, none⟩) r.next.length r.next.length) 27)
    have hlt6 : w.heap.size < w6.heap.size := F6.out.lt
    obtain ⟨X, hX⟩ : ∃ X, X = w6.heap.size := ⟨_, rfl⟩
    have hsz : (w6.alloc (.cells #[.int .i64 r.tapes, .int .i64 r.start, .slice (some ⟨M, 0, none⟩) r.accept.length r.accept.length, .slice (some ⟨M + 1, 0, none⟩) r.next.length r.next.length] 27)).heap.size = X + 1 := by rw [size_alloc', hX]
    have HMX := Lib.hid (show M + 2 + r.next.length ≤ X by rw [hX]; exact O6.out.top)
    have HX := Lib.hid hX
    have HSZ := Lib.hid hsz
    clear ho hb hM k0 k1 k2 k3 hlt hPM hwP B4 B5 F5 W5 hX hsz
    go_wp2_with fail
    rw [← hP]
    clear hP
    refine (copyI _ o _ w.heap.size (HOW.out _ B7.out) B7.out.size HOL.out).mono ?_
    rintro e w7 ⟨Y, hY, rfl, hoi, hb⟩
    rw [HSZ.out] at hY
    subst hY
    have HOI := Lib.hid hoi
    have B7 := Lib.hid (base_step B7.out hb)
    have F7 := Lib.hid (F7.out.step hb)
    have W7 := Lib.hid (W7.out.step hb)
    have O7 := Lib.hid (O7.out.step hb)
    have X7 := Lib.hid (X7.out.step hb)
    have HI7 := Lib.hid (HIO.out _ _ _ B7.out O7.out.reads hoi.reads)
    obtain ⟨⟨x0, x1, x2, x3⟩, hlx⟩ := X7.out
    clear hb hoi hlt6
    go_wp2_with fail
    refine HI7.out.mono ?_
    rintro e w8 ⟨ga, gn, rfl, hbu, hb⟩
    obtain ⟨L0, hL0⟩ : ∃ L, L = w7.heap.size := ⟨_, rfl⟩
    rw [← hL0] at hbu
    have HYL := Lib.hid (show X + 1 < L0 by rw [hL0]; exact HOI.out.lt)
    have X7 := Lib.hid (show Kept w7 X _ _ _ _ from by have := X7.out; rwa [← HX.out] at this)
    have OI8 := Lib.hid ((HOI.out.step hb).step ((Below.refl _ _).alloc (Nat.le_refl _) (.cells #[.int .i64 K, .int .i64 0, ga, gn] 27)))
    obtain ⟨V, hV⟩ := built_relF hbu
    have HNS := Lib.hid (not_size hV)
    have B8 := Lib.hid (base_step B7.out hb)
    have HX8 := Lib.hid (show L0 ≤ w8.heap.size by rw [hL0]; exact hb.size)
    have CK8 := Lib.hid (show Ck w r va vn P K (.slice a4 n4 c4) (.slice b4 m4 d4) A N L0 ga gn V w8.heap.size M X (w8.alloc (.cells #[.int .i64 K, .int .i64 0, ga, gn] 27)) from
      ⟨⟨base_box B8.out _, (F7.out.step hb).box _, (W7.out.step hb).step ((Below.refl _ _).alloc (Nat.le_refl _) _), hV.below ((Below.refl _ _).alloc (Nat.le_refl _) _), Kept.new _ _ _ _ _ _, HNS.out,
        by have h1 := HPM.out; have h2 := HMX.out; have h5 := HYL.out; omega, by have h1 := HPM.out; have h2 := HMX.out; have h3 := HWP.out; have h5 := HYL.out; omega, HX8.out⟩,
       hbu.below ((Below.refl _ _).alloc (Nat.le_refl _) _), (O7.out.step hb).box _, (X7.out.step hb).box _⟩)
    have WB := W7.out.step hb
    obtain ⟨⟨q0, q1, q2, q3⟩, hlq⟩ := WB.box
    obtain ⟨a8, n8, c8, rfl, -⟩ := hbu.acc.shape'
    obtain ⟨items8, -, hnx, -⟩ := hbu.rows
    obtain ⟨b8, m8, d8, rfl, -⟩ := hnx.shape'
    clear hb hbu hnx hV WB HI7 B6 B7 B8 F6 F7 W6 W7 O6 O7 X7 HNS x0 x1 x2 x3 hlx HOI hL0
    go_wp2_with fail
    rw [← HX.out]
    refine (eqRelation _ _ ⟨K, 0, A, N⟩ ⟨K, 0, A, N⟩ _ _ (CK8.out.built.reads _ (Nat.le_refl _) K 0) CK8.out.st.wk.read (Nat.le_refl _)).mono ?_
    rw [sameRel_self]
    rintro e w10 ⟨rfl, hb⟩
    obtain ⟨Q, hQ⟩ : ∃ Q, Q = w8.heap.size := ⟨_, rfl⟩
    rw [← hQ] at CK8
    have CK10 := Lib.hid (CK8.out.step hb)
    have OI10 := Lib.hid (OI8.out.step hb)
    clear hb q0 q1 q2 q3 hlq HX8 CK8 OI8
    obtain ⟨⟨q0, q1, q2, q3⟩, hlq⟩ := CK10.out.xb
    obtain ⟨⟨k0, k1, k2, k3⟩, hlk⟩ := CK10.out.st.arg
    go_upto_region 13 with fail
    rw [← hQ]
    clear hQ
    go_cut [56] (fun v56 wx => v56 = .bool false ∧ OwnI (X + 1) wx o ∧ Ck w r va vn P K (.slice a4 n4 c4) (.slice b4 m4 d4) A N L0 (.slice a8 n8 c8) (.slice b8 m8 d8) V Q M X wx)
    case first =>
      go_region_with (first
        | (go_at_call 9; refine (copyOwn _ r _ w.heap.size (HRW.out _ CK10.out.drew.st.base) CK10.out.drew.st.base.size SH.out).mono ?_; rintro e w11 ⟨M11, rfl, ho, hb⟩; have CK11 := Lib.hid (CK10.out.drew.step hb); have OI11 := Lib.hid ((OI10.out.drewN 1).step hb); have O11 := Lib.hid ho; obtain ⟨⟨p0, p1, p2, p3⟩, -⟩ := CK11.out.xb; clear hb ho)
        | (go_at_call 11; refine (eqRelation _ _ r r w11 w11.heap.size CK11.out.own.reads O11.out.reads (Nat.le_refl _)).mono ?_; rw [sameRel_self]; rintro e w12 ⟨rfl, hb⟩; have CK12 := Lib.hid (CK11.out.step hb); have OI12 := Lib.hid (OI11.out.step hb); clear hb p0 p1 p2 p3))
      all_goals
        go_wp2_with fail
        go_meet
        exact ⟨rfl, OI12.out, CK12.out⟩
    case rest =>
      obtain ⟨rfl, hoi, hck⟩ := hcut
      have CK := Lib.hid hck
      have OI := Lib.hid hoi
      have hckb := hck.st.base
      clear q0 q1 q2 q3 hlq k0 k1 k2 k3 hlk CK10 OI10 hoi hck
      go_wp2_with fail
      refine (copyI _ o _ w.heap.size (HOW.out _ hckb) hckb.size HOL.out).mono ?_
      rintro e w14 ⟨Y2, hY2, rfl, hoi2, hb⟩
      have CK := Lib.hid (CK.out.step hb)
      have OI := Lib.hid (OI.out.step hb)
      have HO2 := Lib.hid hoi2
      clear hb hoi2 hckb hY2
      go_wp2_with fail
      refine (eqInts o o _ _ _ _ OI.out.reads HO2.out.reads).mono ?_
      rw [same_self]
      rintro e w15 ⟨rfl, qq, hqq⟩
      have hck : Ck w r va vn P K (.slice a4 n4 c4) (.slice b4 m4 d4) A N L0 (.slice a8 n8 c8) (.slice b8 m8 d8) V Q M X w15 := by rw [hqq]; exact CK.out.step (below_drewN (Below.refl _ _) qq)
      have OI := Lib.hid (show OwnI (X + 1) w15 o from by rw [hqq]; exact OI.out.drewN qq)
      have CK := Lib.hid hck
      clear hqq HO2
      obtain ⟨V', hRF, hin⟩ := own_relF hck.own
      have HIN := Lib.hid hin
      obtain ⟨q, hq⟩ : ∃ q, q = 1 + r.accept.length + sumTo (lenF r.next) r.next.length := ⟨_, rfl⟩
      have hq0 : q ≤ 1048577 := by have := SS.out; omega
      have HMK := Lib.hid (markRel r.tapes r.start _ _ _ _ _ V' _ _ 1 M _ hRF (by have := hck.own.top; omega) (by have := SS.out; omega) (by omega) (by have := SS.out; omega) (fun h => by have := SS.out; omega))
      rw [← hq] at HMK
      clear hq hRF hin
      obtain ⟨⟨q0, q1, q2, q3⟩, hlq⟩ := hck.xb
      clear hck
      go_wp2_with fail
      refine HMK.out.mono ?_
      rintro e w13 ⟨rfl, -, ho⟩
      have S13 := Lib.hid (CK.out.st.markX ho (fun b hb => by have h1 := HIN.out b hb; have h2 := HPM.out; have h3 := HWP.out; have h4 := HMX.out; have h5 := HYL.out; omega))
      have G13 := Lib.hid (built_only CK.out.built ho (fun b hb => by have h1 := HIN.out b hb; have h4 := HMX.out; have h5 := HYL.out; omega))
      have OI13 := Lib.hid (show OwnI (X + 1) w13 o from ⟨rowIs_only OI.out.row ho OI.out.lt (fun hS => by have h1 := HIN.out _ hS; have h2 := HMX.out; omega), Nat.lt_of_lt_of_le OI.out.lt ho.size, OI.out.short⟩)
      have HMI := Lib.hid (markIntsB (.slice (some ⟨X + 1, 0, none⟩) o.length o.length) o.length _ q (X + 1) w13 (Row.of_row OI13.out.row) HOL.out (by omega))
      clear ho HMK HIN CK OI q0 q1 q2 q3 hlq
      go_wp2_with fail
      refine HMI.out.mono ?_
      rintro e w13' ⟨rfl, -, hg⟩
      have ho := Only.of_grown (S := fun b => b = X + 1) hg (fun b e => by cases e; rfl)
      have S13 := Lib.hid (S13.out.markX ho (fun b hb => by have h2 := HPM.out; have h3 := HWP.out; have h4 := HMX.out; have h5 := HYL.out; have hb : b = X + 1 := hb; omega))
      have G13 := Lib.hid (built_only G13.out ho (fun b hb => by have h5 := HYL.out; have hb : b = X + 1 := hb; omega))
      clear ho hg HMI
      obtain ⟨⟨g0, g1, g2, g3⟩, hlg⟩ := S13.out.gb
      obtain ⟨⟨p0, p1, p2, p3⟩, hlp⟩ := S13.out.wk.box
      go_wp2_with fail
      refine (eqRelation _ _ ⟨K, 0, A, N⟩ ⟨K, 0, A, N⟩ _ _ (G13.out.reads _ (Nat.le_refl _) K 0) S13.out.wk.read (Nat.le_refl _)).mono ?_
      rw [sameRel_self]
      rintro e w14 ⟨rfl, hb⟩
      have S14 := Lib.hid (S13.out.step hb)
      have HM2 := Lib.hid (markRel K 0 _ _ _ _ _ V _ _ 1 L0 _ S14.out.relf S14.out.lL (by have := HTN.out; omega) (by omega) (by have := HTS.out; omega) (fun h => by have := HTS.out; omega))
      rw [← HPP.out] at HM2
      clear hb G13 S13 g0 g1 g2 g3 hlg p0 p1 p2 p3 hlp
      obtain ⟨⟨g0, g1, g2, g3⟩, hlg⟩ := S14.out.gb
      go_wp2_with fail
      refine HM2.out.mono ?_
      rintro e w17 ⟨rfl, hrf, ho⟩
      have S17 := Lib.hid (S14.out.markG ho hrf)
      have HH := Lib.hid (fun W (h : St w r.tapes r.start va vn P K (.slice a4 n4 c4) (.slice b4 m4 d4) A N L0 (.slice a8 n8 c8) (.slice b8 m8 d8) V Q (fun i => .bool (markB (1 + i))) (fun i c => .int .i64 ((1 + A.length + sumTo (lenF N) i + c : Nat) : Int)) W) =>
        heldRel K 0 _ _ A.length N.length V (lenF N) 1 L0 W h.relf (by have := HTN.out; omega) (by omega) (by have := HTS.out; omega) (fun h => by have := HTS.out; omega))
      rw [← HPP.out] at HH
      clear ho hrf HM2 S14 g0 g1 g2 g3 hlg
      obtain ⟨⟨g0, g1, g2, g3⟩, hlg⟩ := S17.out.gb
      go_wp2_with fail
      refine (HH.out _ S17.out).mono ?_
      rintro e w19 ⟨rfl, hb⟩
      have S19 := Lib.hid (S17.out.step hb)
      clear hb S17 g0 g1 g2 g3 hlg
      obtain ⟨⟨k0, k1, k2, k3⟩, hlk⟩ := S19.out.arg
      go_wp2_with fail
      refine (copyOwn _ r _ w.heap.size (HRW.out _ S19.out.base) S19.out.base.size SH.out).mono ?_
      rintro e w24 ⟨M24, rfl, ho, hb⟩
      have S24 := Lib.hid (S19.out.step hb)
      have O24 := Lib.hid ho
      clear hb ho S19 k0 k1 k2 k3 hlk
      go_wp2_with fail
      refine (copyI _ o _ w.heap.size (HOW.out _ S24.out.base) S24.out.base.size HOL.out).mono ?_
      rintro e w24' ⟨Y3, hY3, rfl, hoi3, hb⟩
      have S24 := Lib.hid (S24.out.step hb)
      have HI24 := Lib.hid (HIO.out _ _ _ S24.out.base (O24.out.step hb).reads hoi3.reads)
      clear hb hoi3 O24 hY3
      go_wp2_with fail
      refine HI24.out.mono ?_
      rintro e w25 ⟨ha, hn, rfl, hbu, hb⟩
      have H25 := Lib.hid (hbu.below ((Below.refl _ _).alloc (Nat.le_refl _) (.cells #[.int .i64 K, .int .i64 0, ha, hn] 27)))
      have S25 := S24.out.step hb
      have S26 := Lib.hid (S25.step ((Below.refl _ _).alloc (Nat.le_refl _) (.cells #[.int .i64 K, .int .i64 0, ha, hn] 27)))
      obtain ⟨⟨p0, p1, p2, p3⟩, hlp⟩ := S25.wk.box
      obtain ⟨a25, n25, c25, rfl, -⟩ := hbu.acc.shape'
      obtain ⟨items25, -, hnx, -⟩ := hbu.rows
      obtain ⟨b25, m25, d25, rfl, -⟩ := hnx.shape'
      clear hb hbu hnx S24 S25 HI24
      go_wp2_with fail
      refine (eqRelation _ _ ⟨K, 0, A, N⟩ ⟨K, 0, A, N⟩ _ _ (H25.out.reads _ (Nat.le_refl _) K 0) S26.out.wk.read (Nat.le_refl _)).mono ?_
      rw [sameRel_self]
      rintro e w27 ⟨rfl, hb⟩
      have S27 := Lib.hid (S26.out.step hb)
      clear hb H25 S26 p0 p1 p2 p3 hlp
      obtain ⟨⟨g0, g1, g2, g3⟩, hlg⟩ := S27.out.gb
      go_wp2_with fail
      refine (HH.out _ S27.out).mono ?_
      rintro e w28 ⟨rfl, hb⟩
      have B28 := Lib.hid (base_step S27.out.base hb)
      go_wp2_with fail
      go_ret
      exact ⟨rfl, B28.out⟩
theorem none_sum : 1 + ([] : List Bool).length + sumTo (lenF []) ([] : List (List Int)).length ≤ 5000 := by decide
theorem few_sum {l : TidyRight.L} (hl : l.Ok) : 1 + (ImplTidied.fewA l 150).length + sumTo (lenF (ImplTidied.fewN l 150)) (ImplTidied.fewN l 150).length ≤ 5000 := by
  unfold ImplTidied.fewA ImplTidied.fewN
  cases h : ImplTidied.fewB l 150 with
  | false => exact none_sum
  | true => exact ResKit.tidyL_sum hl (of_decide_eq_true h)
theorem few_len {l : TidyRight.L} (hl : l.Ok) : (ImplTidied.fewN l 150).length ≤ 5000 := by
  unfold ImplTidied.fewN
  cases h : ImplTidied.fewB l 150 with
  | false => exact Nat.zero_le _
  | true =>
    have h1 : (TidyRight.tidyAcc l).length ≤ 150 := of_decide_eq_true h
    have h2 := ResKit.tidyNext_len l
    show (TidyRight.tidyNext l).length ≤ 5000
    omega
theorem ans_sum {c : Int} {l : TidyRight.L} (hl : c = 0 → l.Ok) : 1 + (TapeFn.ansA c l).length + sumTo (lenF (TapeFn.ansN c l)) (TapeFn.ansN c l).length ≤ 5000 := by
  unfold TapeFn.ansA TapeFn.ansN
  by_cases h : c = 0
  · rw [if_pos h, if_pos h]; exact few_sum (hl h)
  · rw [if_neg h, if_neg h]; exact none_sum
theorem ans_len {c : Int} {l : TidyRight.L} (hl : c = 0 → l.Ok) : (TapeFn.ansN c l).length ≤ 5000 := by
  unfold TapeFn.ansN
  by_cases h : c = 0
  · rw [if_pos h]; exact few_len (hl h)
  · rw [if_neg h]; exact Nat.zero_le _
theorem move_law_ok (r : R) (o : List Int) (h : MoveFn.moveC r o = 0) : (MoveFn.moveL r o).Ok := by
  unfold MoveFn.moveC at h
  by_cases hok : okB r = true
  · rw [if_pos hok] at h
    by_cases h2 : OrdMath.ordB (ToL.toL r).k o = true
    · exact MoveFn.move_ok hok h2
    · rw [if_neg h2] at h; exact absurd h (by decide)
  · rw [if_neg hok] at h; exact absurd h (by decide)
theorem lawDoor (w : World) (hg : ErrCode.Laid w) (v : Value) (r : R) (hr : RelAt w w.heap.size v r) (ov : Value) (o : List Int) (hov : Ints w w.heap.size ov o) :
    Calls Tryd.prog 4 #[v, ov] w fun e w' => e = .returned (.bool true) ∧ Below w.heap.size w w' :=
  law w v r hr o ov hov (TapeFn.ansK (MoveFn.moveC r o) (MoveFn.moveL r o)) (TapeFn.ansC (MoveFn.moveC r o) (MoveFn.moveL r o)) (TapeFn.ansA (MoveFn.moveC r o) (MoveFn.moveL r o)) (TapeFn.ansN (MoveFn.moveC r o) (MoveFn.moveL r o)) (fun W v ov h h2 => MoveS.specMove v r o ov W W.heap.size h h2 (Nat.le_refl _)) (fun W v ov hb h h2 => MoveFn.implMove v r o ov W W.heap.size h h2 (Nat.le_refl _) (hg.below hb)) (ans_sum (move_law_ok r o)) (ans_len (move_law_ok r o))
end Go.Proofs.YtgaipjofhkijbaaDoor.LawMoveTapes
