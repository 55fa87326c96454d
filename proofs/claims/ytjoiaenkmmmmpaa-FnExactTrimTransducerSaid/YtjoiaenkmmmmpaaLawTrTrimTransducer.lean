
/- The law of TrimTransducer: what the program answers is what the model answers, in memory of its own, and the argument stays as it was.
   Conditions: the argument is read as XEdg's text says. -/
import Derived.Test.YtjoiaenkmmmmpaaTrTrimTransducer
import Derived.Deep.RegionWith
import Derived.Deep.DeepCutAuto
import Derived.Deep.CutBlock
namespace Go.Proofs.Ytjoiaenkmmmmpaa.LawTrTrimTransducer
set_option linter.unusedVariables false
set_option linter.unusedSimpArgs false
open Go.RowKit Mem Copy Rel Heap MarkRow MarkBool MarkRows Edg EdgCopy EdgEq TrHeap TrMark TrLawKit TrTrimTransducer

theorem szEsTo_len (es : List E) : ∀ left : Int, 0 ≤ left → 0 ≤ szEs left es → (es.length : Int) ≤ left := by
  intro left h0 h
  unfold szEs at h
  by_cases h1 : left < (es.length : Int)
  · rw [if_pos h1] at h; omega
  · omega
theorem szTr_sum {t : T} (h : 0 ≤ szTr 1048576 t) : t.accept.length + t.edges.length ≤ 1048576 := by
  unfold szTr at h
  by_cases h1 : (1048576 : Int) < (t.accept.length : Int)
  · rw [if_pos h1] at h; omega
  · rw [if_neg h1] at h
    have := szEsTo_len t.edges (1048576 - t.accept.length) (by omega) h
    omega

/-- The law's state before anything is marked: the box of its argument, both answers, the program's argument. -/
structure Ck (w : World) (t : T) (va vn : Value) (P : Nat) (K : Int) (wa wn : Value) (A : List Bool) (N : List E) (L : Nat) (ga gn : Value) (Q : Nat) (M X : Nat) (W : World) : Prop where
  st : St w (w.heap.size + 1) (fun W => Kept3 W w.heap.size (.int .i64 t.start) va vn) P K wa wn A N L ga gn Q (boolF A) (edgeF N) W
  built : BuiltT W L ga gn A N
  own : OwnT W M t
  xb : Kept3 W X (.int .i64 t.start) (.slice (some ⟨M, 0, none⟩) t.accept.length t.accept.length) (.slice (some ⟨M + 1, 0, none⟩) t.edges.length t.edges.length)
theorem keeps (w : World) (a b c : Value) : Keeps (w.heap.size + 1) (fun W => Kept3 W w.heap.size a b c) := fun W W' h hb => by
  have h1 := h.lt
  have h2 := hb.size
  refine ⟨(hb.cell (p := ⟨w.heap.size, 0, none⟩) (Nat.lt_succ_self _)).trans h.c0, (hb.cell (p := ⟨w.heap.size, 1, none⟩) (Nat.lt_succ_self _)).trans h.c1, (hb.cell (p := ⟨w.heap.size, 2, none⟩) (Nat.lt_succ_self _)).trans h.c2, by omega⟩
theorem Ck.step {w : World} {t : T} {va vn : Value} {P : Nat} {K : Int} {wa wn : Value} {A : List Bool} {N : List E} {L : Nat} {ga gn : Value} {Q M X : Nat} {W W' : World} (h : Ck w t va vn P K wa wn A N L ga gn Q M X W) (hb : Below W.heap.size W W') : Ck w t va vn P K wa wn A N L ga gn Q M X W' :=
  ⟨h.st.step (keeps _ _ _ _) hb, h.built.below hb, h.own.step hb, h.xb.step hb⟩
theorem Ck.drew {w : World} {t : T} {va vn : Value} {P : Nat} {K : Int} {wa wn : Value} {A : List Bool} {N : List E} {L : Nat} {ga gn : Value} {Q M X : Nat} {W : World} (h : Ck w t va vn P K wa wn A N L ga gn Q M X W) : Ck w t va vn P K wa wn A N L ga gn Q M X W.drew := h.step ((Below.refl _ _).drew)
theorem not_size {w : World} {lo : Nat} {va vn : Value} {nb ne : Nat} {fb fe : Nat → Value} (h : TrF w lo va vn nb fb ne fe) : ¬ InTr va nb vn ne w.heap.size := fun hb => Nat.lt_irrefl _ (inTr_lt h hb)

set_option maxRecDepth 100000 in
set_option maxHeartbeats 8000000 in
theorem law (w : World) (v : Value) (t : T) (hr : TrAt w w.heap.size v t) :
    Calls Try.prog 10 #[v] w fun e w' => e = .returned (.bool true) ∧ Below w.heap.size w w' := by
  have HRW := Lib.hid (fun W (h : Below w.heap.size w W) => hr.below h (Nat.le_refl _))
  obtain ⟨va, vn, rfl, -, -⟩ := hr
  have B0 := Lib.hid (base_box (Below.refl _ w) (.cells #[.int .i64 t.start, va, vn] 25))
  have F0 := Lib.hid (Kept3.new w (.int .i64 t.start) va vn 25)
  have HLA := Lib.hid (ans_len t)
  have HSO := Lib.hid (fun W v (h : TrAt W W.heap.size v t) => specAns v t W W.heap.size h (Nat.le_refl _))
  have HIO := Lib.hid (fun W v (h : TrAt W W.heap.size v t) => implAns v t W W.heap.size h (Nat.le_refl _))
  go_enter Try.func10, Try.ntmps10
  go_wp2_with fail
  refine (szTransducer _ t 1048576 _ w.heap.size (HRW.out _ B0.out) B0.out.size (by omega) (by omega)).mono ?_
  rintro e w1 ⟨rfl, hb⟩
  have B1 := Lib.hid (base_step B0.out hb)
  have F1 := Lib.hid (F0.out.step hb)
  clear hb
  obtain ⟨k0, k1, k2, -⟩ := F1.out
  obtain ⟨z, hz⟩ : ∃ z, z = szTr 1048576 t := ⟨_, rfl⟩
  rw [← hz]
  have HZ := Lib.hid hz
  clear hz
  by_cases hneg : z < 0
  · go_wp2_with fail
    go_ret
    exact ⟨rfl, B1.out⟩
  · have SH := Lib.hid (shortT_of (t := t) (Int.le_refl _) (by rw [← HZ.out]; omega))
    have SS := Lib.hid (szTr_sum (t := t) (by rw [← HZ.out]; omega))
    obtain ⟨K, hK⟩ : ∃ K, K = ansK t := ⟨_, rfl⟩
    obtain ⟨C, hC⟩ : ∃ C, C = ansC t := ⟨_, rfl⟩
    obtain ⟨A, hA⟩ : ∃ A, A = ansA t := ⟨_, rfl⟩
    obtain ⟨N, hN⟩ : ∃ N, N = ansN t := ⟨_, rfl⟩
    rw [← hK, ← hC, ← hA, ← hN] at HSO HIO
    rw [← hA, ← hN] at HLA
    have hcc : (C != C) = false := by simp
    clear hK hC hA hN
    obtain ⟨p, hp⟩ : ∃ p, p = 1 + A.length + N.length * 4 := ⟨_, rfl⟩
    have hp0 : p ≤ 500000 := by have := HLA.out; omega
    have hpp : ((p : Int) != (p : Int)) = false := by simp
    have HPP := Lib.hid hp
    clear hp
    go_wp2_with fail
    refine (copyTr _ t w1 w.heap.size (HRW.out _ B1.out) B1.out.size SH.out).mono ?_
    rintro e w3 ⟨M3, rfl, ho, hb, -⟩
    have B3 := Lib.hid (base_step B1.out hb)
    have F3 := Lib.hid (F1.out.step hb)
    have HS3 := Lib.hid (HSO.out w3 _ ho.reads)
    clear hb ho k0 k1 k2 B1 F1 B0 F0
    go_wp2_with fail
    refine HS3.out.mono ?_
    rintro e w4 ⟨wa, wn, rfl, hbu, hb⟩
    have W5 := Lib.hid (WK.new (K := K) hbu 30)
    obtain ⟨a4, n4, c4, rfl, -⟩ := hbu.acc.shape'
    obtain ⟨b4, m4, d4, rfl, -⟩ := hbu.edg.shape'
    have B4 := Lib.hid (base_step B3.out hb)
    have F4 := F3.out.step hb
    obtain ⟨k0, k1, k2, hlt⟩ := F4
    have B5 := Lib.hid (base_box (base_step B3.out hb) (.cells #[.int .i64 K, .slice a4 n4 c4, .slice b4 m4 d4] 30))
    have F5 := Lib.hid ((F3.out.step hb).box (.cells #[.int .i64 K, .slice a4 n4 c4, .slice b4 m4 d4] 30))
    clear hb hbu HS3 B3 F3
    go_wp2_with fail
    refine (copyTr _ t _ w.heap.size (HRW.out _ B5.out) B5.out.size SH.out).mono ?_
    rintro e w6 ⟨M, rfl, ho, hb, hM⟩
    obtain ⟨P, hP⟩ : ∃ P, P = w4.heap.size := ⟨_, rfl⟩
    have hPM : P < M := by rw [size_alloc'] at hM; omega
    have hwP : w.heap.size + 1 ≤ P := by rw [hP]; exact hlt
    have HPM := Lib.hid hPM
    have HWP := Lib.hid hwP
    rw [← hP] at W5
    have B6 := Lib.hid (base_step B5.out hb)
    have F6 := Lib.hid (F5.out.step hb)
    have W6 := Lib.hid (W5.out.step hb)
    have O6 := Lib.hid ho
    have B7 := Lib.hid (base_box B6.out (.cells #[.int .i64 t.start, .slice (some ⟨M, 0, none⟩) t.accept.length t.accept.length, .slice (some ⟨M + 1, 0, none⟩) t.edges.length t.edges.length] 30))
    have F7 := Lib.hid (F6.out.box (.cells #[.int .i64 t.start, .slice (some ⟨M, 0, none⟩) t.accept.length t.accept.length, .slice (some ⟨M + 1, 0, none⟩) t.edges.length t.edges.length] 30))
    have W7 := Lib.hid (W6.out.step ((Below.refl _ _).alloc (Nat.le_refl _) (.cells #[.int .i64 t.start, .slice (some ⟨M, 0, none⟩) t.accept.length t.accept.length, .slice (some ⟨M + 1, 0, none⟩) t.edges.length t.edges.length] 30)))
    have O7 := Lib.hid (O6.out.box (.cells #[.int .i64 t.start, .slice (some ⟨M, 0, none⟩) t.accept.length t.accept.length, .slice (some ⟨M + 1, 0, none⟩) t.edges.length t.edges.length] 30))
    have X7 := Lib.hid (Kept3.new w6 (.int .i64 t.start) (.slice (some ⟨M, 0, none⟩) t.accept.length t.accept.length) (.slice (some ⟨M + 1, 0, none⟩) t.edges.length t.edges.length) 30)
    have HI7 := Lib.hid (HIO.out _ _ O7.out.reads)
    have hlt6 : w.heap.size < w6.heap.size := F6.out.lt
    clear ho hb hM k0 k1 k2 hlt hPM hwP B4 B5 F5 W5
    go_wp2_with fail
    rw [← hP]
    clear hP
    refine HI7.out.mono ?_
    rintro e w8 ⟨ga, gn, rfl, hbu, hb⟩
    obtain ⟨X, hX⟩ : ∃ X, X = w6.heap.size := ⟨_, rfl⟩
    have hsz : (w6.alloc (.cells #[.int .i64 t.start, .slice (some ⟨M, 0, none⟩) t.accept.length t.accept.length, .slice (some ⟨M + 1, 0, none⟩) t.edges.length t.edges.length] 30)).heap.size = X + 1 := by rw [size_alloc', hX]
    rw [hsz] at hbu
    rw [← hX] at X7
    have HMX := Lib.hid (show M + 2 ≤ X by rw [hX]; exact O6.out.top)
    have hV := hbu.trF
    have HNS := Lib.hid (not_size hV)
    have B8 := Lib.hid (base_step B7.out hb)
    have HX8 := Lib.hid (show X + 1 ≤ w8.heap.size by rw [← hsz]; exact hb.size)
    have CK8 := Lib.hid (show Ck w t va vn P K (.slice a4 n4 c4) (.slice b4 m4 d4) A N (X + 1) ga gn w8.heap.size M X (w8.alloc (.cells #[.int .i64 K, ga, gn] 30)) from
      ⟨⟨base_box B8.out _, (F7.out.step hb).box _, (W7.out.step hb).step ((Below.refl _ _).alloc (Nat.le_refl _) _), hV.below ((Below.refl _ _).alloc (Nat.le_refl _) _), Kept3.new _ _ _ _ _, HNS.out,
        by have h1 := HPM.out; have h2 := HMX.out; omega, HWP.out, Nat.le_succ _, HX8.out⟩,
       hbu.below ((Below.refl _ _).alloc (Nat.le_refl _) _), (O7.out.step hb).box _, (X7.out.step hb).box _⟩)
    have WB := W7.out.step hb
    obtain ⟨q0, q1, q2, hlq⟩ := WB.box
    obtain ⟨a8, n8, c8, rfl, -⟩ := hbu.acc.shape'
    obtain ⟨b8, m8, d8, rfl, -⟩ := hbu.edg.shape'
    clear hb hbu hV hsz hlt6 WB HI7 B6 B7 B8 F6 F7 W6 W7 O6 O7 X7 HNS
    go_wp2_with fail
    rw [← hX]
    clear hX
    refine (eqTransducer _ _ ⟨K, A, N⟩ ⟨K, A, N⟩ _ _ (CK8.out.built.reads _ (Nat.le_refl _) K) CK8.out.st.wk.read (Nat.le_refl _)).mono ?_
    rw [sameT_self]
    rintro e w10 ⟨rfl, hb⟩
    obtain ⟨Q, hQ⟩ : ∃ Q, Q = w8.heap.size := ⟨_, rfl⟩
    rw [← hQ] at CK8
    have CK10 := Lib.hid (CK8.out.step hb)
    clear hb q0 q1 q2 hlq HX8 CK8
    obtain ⟨q0, q1, q2, hlq⟩ := CK10.out.xb
    obtain ⟨k0, k1, k2, hlk⟩ := CK10.out.st.ext
    go_upto_region 10 with fail
    rw [← hQ]
    clear hQ
    go_cut [45] (fun v45 wx => v45 = .bool false ∧ Ck w t va vn P K (.slice a4 n4 c4) (.slice b4 m4 d4) A N (X + 1) (.slice a8 n8 c8) (.slice b8 m8 d8) Q M X wx)
    case first =>
      go_region_with (first
        | (go_at_call 14; refine (copyTr _ t _ w.heap.size (HRW.out _ CK10.out.drew.st.base) CK10.out.drew.st.base.size SH.out).mono ?_; rintro e w11 ⟨M11, rfl, ho, hb, -⟩; have CK11 := Lib.hid (CK10.out.drew.step hb); have O11 := Lib.hid ho; obtain ⟨p0, p1, p2, -⟩ := CK11.out.xb; clear hb ho)
        | (go_at_call 16; refine (eqTransducer _ _ t t w11 w11.heap.size CK11.out.own.reads O11.out.reads (Nat.le_refl _)).mono ?_; rw [sameT_self]; rintro e w12 ⟨rfl, hb⟩; have CK12 := Lib.hid (CK11.out.step hb); clear hb p0 p1 p2))
      all_goals
        go_wp2_with fail
        go_meet
        exact ⟨rfl, CK12.out⟩
    case rest =>
      obtain ⟨rfl, hck⟩ := hcut
      have CK := Lib.hid hck
      obtain ⟨hRF, hin⟩ := own_trF hck.own
      have HIN := Lib.hid hin
      obtain ⟨q, hq⟩ : ∃ q, q = 1 + t.accept.length + t.edges.length * 4 := ⟨_, rfl⟩
      have hq0 : q ≤ 5000000 := by have := SS.out; omega
      have HMK := Lib.hid (markTr t.start _ _ _ _ _ _ 1 M _ hRF (by have := SS.out; omega) (by have := SS.out; omega) (by omega) (by have := SS.out; omega))
      rw [← hq] at HMK
      clear q0 q1 q2 hlq k0 k1 k2 hlk hq hRF hin CK10
      obtain ⟨q0, q1, q2, hlq⟩ := hck.xb
      clear hck
      go_wp2_with fail
      refine HMK.out.mono ?_
      rintro e w13 ⟨rfl, -, ho⟩
      have S13 := Lib.hid (CK.out.st.markX (keeps _ _ _ _) ho (fun b hb => by have h1 := HIN.out b hb; have h2 := HPM.out; have h4 := HMX.out; omega))
      have G13 := Lib.hid (CK.out.built.only ho (fun b hb => by have h1 := HIN.out b hb; have h4 := HMX.out; omega))
      clear ho HMK HIN CK q0 q1 q2 hlq
      obtain ⟨g0, g1, g2, hlg⟩ := S13.out.gb
      obtain ⟨p0, p1, p2, hlp⟩ := S13.out.wk.box
      go_wp2_with fail
      refine (eqTransducer _ _ ⟨K, A, N⟩ ⟨K, A, N⟩ _ _ (G13.out.reads _ (Nat.le_refl _) K) S13.out.wk.read (Nat.le_refl _)).mono ?_
      rw [sameT_self]
      rintro e w14 ⟨rfl, hb⟩
      have S14 := Lib.hid (S13.out.step (keeps _ _ _ _) hb)
      have HM2 := Lib.hid (markTr K _ _ _ _ _ _ 1 (X + 1) _ S14.out.trf (by have := HLA.out; omega) (by have := HLA.out; omega) (by omega) (by have := HLA.out; omega))
      rw [← HPP.out] at HM2
      clear hb G13 S13 g0 g1 g2 hlg p0 p1 p2 hlp
      obtain ⟨g0, g1, g2, hlg⟩ := S14.out.gb
      go_wp2_with fail
      refine HM2.out.mono ?_
      rintro e w17 ⟨rfl, hrf, ho⟩
      have S17 := Lib.hid (S14.out.markG (keeps _ _ _ _) ho hrf)
      have HH := Lib.hid (fun W (h : St w (w.heap.size + 1) (fun W => Kept3 W w.heap.size (.int .i64 t.start) va vn) P K (.slice a4 n4 c4) (.slice b4 m4 d4) A N (X + 1) (.slice a8 n8 c8) (.slice b8 m8 d8) Q (fun i => .bool (markB (1 + i))) (markF (1 + A.length)) W) =>
        heldTr K _ _ A.length N.length 1 (X + 1) W h.trf (by have := HLA.out; omega) (by have := HLA.out; omega) (by omega) (by have := HLA.out; omega))
      rw [← HPP.out] at HH
      clear ho hrf HM2 S14 g0 g1 g2 hlg
      obtain ⟨g0, g1, g2, hlg⟩ := S17.out.gb
      go_wp2_with fail
      refine (HH.out _ S17.out).mono ?_
      rintro e w19 ⟨rfl, hb⟩
      have S19 := Lib.hid (S17.out.step (keeps _ _ _ _) hb)
      clear hb S17 g0 g1 g2 hlg
      obtain ⟨k0, k1, k2, hlk⟩ := S19.out.ext
      go_wp2_with fail
      refine (copyTr _ t _ w.heap.size (HRW.out _ S19.out.base) S19.out.base.size SH.out).mono ?_
      rintro e w24 ⟨M24, rfl, ho, hb, -⟩
      have S24 := Lib.hid (S19.out.step (keeps _ _ _ _) hb)
      have HI24 := Lib.hid (HIO.out _ _ ho.reads)
      clear hb ho S19 k0 k1 k2 hlk
      go_wp2_with fail
      refine HI24.out.mono ?_
      rintro e w25 ⟨ha, hn, rfl, hbu, hb⟩
      have H25 := Lib.hid (hbu.below ((Below.refl _ _).alloc (Nat.le_refl _) (.cells #[.int .i64 K, ha, hn] 30)))
      have S25 := S24.out.step (keeps _ _ _ _) hb
      have S26 := Lib.hid (S25.step (keeps _ _ _ _) ((Below.refl _ _).alloc (Nat.le_refl _) (.cells #[.int .i64 K, ha, hn] 30)))
      obtain ⟨p0, p1, p2, hlp⟩ := S25.wk.box
      obtain ⟨a25, n25, c25, rfl, -⟩ := hbu.acc.shape'
      obtain ⟨b25, m25, d25, rfl, -⟩ := hbu.edg.shape'
      clear hb hbu S24 S25 HI24
      go_wp2_with fail
      refine (eqTransducer _ _ ⟨K, A, N⟩ ⟨K, A, N⟩ _ _ (H25.out.reads _ (Nat.le_refl _) K) S26.out.wk.read (Nat.le_refl _)).mono ?_
      rw [sameT_self]
      rintro e w27 ⟨rfl, hb⟩
      have S27 := Lib.hid (S26.out.step (keeps _ _ _ _) hb)
      clear hb H25 S26 p0 p1 p2 hlp
      obtain ⟨g0, g1, g2, hlg⟩ := S27.out.gb
      go_wp2_with fail
      refine (HH.out _ S27.out).mono ?_
      rintro e w28 ⟨rfl, hb⟩
      have B28 := Lib.hid (base_step S27.out.base hb)
      go_wp2_with fail
      go_ret
      exact ⟨rfl, B28.out⟩
end Go.Proofs.Ytjoiaenkmmmmpaa.LawTrTrimTransducer
