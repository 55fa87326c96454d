
/- The law of FirstTuple: what the program answers is what the model answers, in memory of its own, and the argument stays as it was.
   Conditions: the argument is read as XRel's text says. -/
import Derived.Test.YtjplmmokbkkclaaFM8
import Derived.Test.YtjplmmokbkkclaaFM11
import Derived.Test.YtjplmmokbkkclaaFM25
import Derived.Deep.RegionWith
namespace Go.Proofs.Ytjplmmokbkkclaa.LawFirstTuple
set_option linter.unusedVariables false
set_option linter.unusedSimpArgs false
set_option linter.ambiguousOpen false
open Go.RowKit Mem Copy Rel Strs Words Heap MarkT MarkRow MarkRows MarkRel MarkOf MarkStrs SpecWords StrKit

/-- The argument's box. -/
def Ar (w : World) (r : R) (va vn : Value) (W : World) : Prop := Kept W w.heap.size (.int .i64 r.tapes) (.int .i64 r.start) va vn
theorem ar_keeps (w : World) (r : R) (va vn : Value) : Keeps (w.heap.size + 1) (Ar w r va vn) := fun W W' h hb => ⟨h.four.below hb (Nat.lt_succ_self _), Nat.lt_of_lt_of_le h.lt hb.size⟩
/-- The law's state before anything is marked. -/
structure Ck (w : World) (r : R) (va vn : Value) (N : Nat) (vw : Value) (L : List ByteArray) (lo : Nat) (vg : Value) (M X : Nat) (W : World) : Prop where
  st : St w (w.heap.size + 1) (Ar w r va vn) N vw L lo vg (fun i => .string (L.getD i ByteArray.empty)) W
  cp : Cp r M X W
  hNM : N ≤ M
  hXl : X < lo
theorem Ck.step {w : World} {r : R} {va vn : Value} {N : Nat} {vw : Value} {L : List ByteArray} {lo : Nat} {vg : Value} {M X : Nat} {W W' : World} (h : Ck w r va vn N vw L lo vg M X W) (hb : Below W.heap.size W W') : Ck w r va vn N vw L lo vg M X W' :=
  ⟨h.st.step (ar_keeps w r va vn) hb, h.cp.step hb, h.hNM, h.hXl⟩
theorem Ck.drew {w : World} {r : R} {va vn : Value} {N : Nat} {vw : Value} {L : List ByteArray} {lo : Nat} {vg : Value} {M X : Nat} {W : World} (h : Ck w r va vn N vw L lo vg M X W) : Ck w r va vn N vw L lo vg M X W.drew := h.step ((Below.refl _ _).drew)

set_option maxRecDepth 100000 in
set_option maxHeartbeats 8000000 in
theorem law (w : World) (v : Value) (r : R) (hr : RelAt w w.heap.size v r) (C : Int) (L : List ByteArray)
    (hS : ∀ v W, RelAt W W.heap.size v r → Calls Try.prog 17 #[v] W fun e w' => ∃ x, e = .returned (.tuple #[x, .int .i64 C]) ∧ FreshS W.heap.size w' x L ∧ Below W.heap.size W w')
    (hI : ∀ v W, RelAt W W.heap.size v r → Calls Try.prog 18 #[v] W fun e w' => ∃ x, e = .returned (.tuple #[x, .int .i64 C]) ∧ FreshS W.heap.size w' x L ∧ Below W.heap.size W w')
    (h3 : L.length ≤ 3) (hs : ∀ i, (L.getD i ByteArray.empty).size ≤ maxLen) :
    Calls Try.prog 4 #[v] w fun e w' => e = .returned (.bool true) ∧ Below w.heap.size w w' := by
  have HRW := Lib.hid (fun W (h : Below w.heap.size w W) => hr.below h (Nat.le_refl _))
  obtain ⟨va, vn, rfl, -, -⟩ := hr
  have B0 := Lib.hid (base_box (Below.refl _ w) (.cells #[.int .i64 r.tapes, .int .i64 r.start, va, vn] 25))
  have F0 := Lib.hid (Kept.new w (.int .i64 r.tapes) (.int .i64 r.start) va vn 25)
  have HSO := Lib.hid hS
  have HIO := Lib.hid hI
  have HLL := Lib.hid h3
  have HLS := Lib.hid hs
  clear hS hI h3 hs
  go_enter Try.func4, Try.ntmps4
  go_wp2_with fail
  refine (szRelation _ r 1048576 _ w.heap.size (HRW.out _ B0.out) B0.out.size (by omega) (by omega)).mono ?_
  rintro e w1 ⟨rfl, hb⟩
  have B1 := Lib.hid (base_step B0.out hb)
  have F1 := Lib.hid (F0.out.step hb)
  clear hb
  obtain ⟨⟨k0, k1, k2, k3⟩, -⟩ := F1.out
  obtain ⟨z, hz⟩ : ∃ z, z = szRel 1048576 r := ⟨_, rfl⟩
  rw [← hz]
  have HZ := Lib.hid hz
  clear hz
  by_cases hneg : z < 0
  · go_wp2_with fail
    go_ret
    exact ⟨rfl, B1.out⟩
  · have SH := Lib.hid (short_of (r := r) (by rw [← HZ.out]; omega))
    have SS := Lib.hid (LawKit.szRel_sum (r := r) (by rw [← HZ.out]; omega))
    have hcc : (C != C) = false := by simp
    obtain ⟨q, hq⟩ : ∃ q : Nat, q = 1 + L.length := ⟨_, rfl⟩
    have hq0 : q ≤ 4 := by have := HLL.out; omega
    have hqq : ((q : Int) != (q : Int)) = false := by simp
    have HMS := Lib.hid (fun W v f lo (h : Row W lo 9 v L.length f) => markS' v L.length f 1 lo W h (by have := HLL.out; omega) (by omega) (by omega))
    have HHS := Lib.hid (fun W v (h : Sl W W.heap.size v L.length (fun i => .string (markS (1 + i)))) => heldStrs v L.length 1 W.heap.size W h (Nat.le_refl _) (by have := HLL.out; omega) (by omega) (by omega))
    rw [← hq] at HMS HHS
    have HLM := Lib.hid (show L.length ≤ maxLen by have := HLL.out; unfold maxLen; omega)
    have HQ := Lib.hid hq
    clear hq
    go_wp2_with fail
    refine (copyOwn _ r w1 w.heap.size (HRW.out _ B1.out) B1.out.size SH.out).mono ?_
    rintro e w3 ⟨M3, rfl, ho, hb⟩
    have B3 := Lib.hid (base_step B1.out hb)
    have F3 := Lib.hid (F1.out.step hb)
    have HS3 := Lib.hid (HSO.out _ w3 ho.reads)
    clear hb ho k0 k1 k2 k3 B1 F1 B0 F0 HSO
    go_wp2_with fail
    refine HS3.out.mono ?_
    rintro e w4 ⟨vw, rfl, hf, hb⟩
    have B4 := Lib.hid (base_step B3.out hb)
    have F4 := Lib.hid (F3.out.step hb)
    obtain ⟨N, hN⟩ : ∃ N, N = w4.heap.size := ⟨_, rfl⟩
    have W4 := Lib.hid (show OldS N w4 vw L by rw [hN]; exact freshS_old hf HLL.out HLS.out)
    have hlN := F4.out.lt
    rw [← hN] at hlN
    have HwN := Lib.hid hlN
    obtain ⟨⟨k0, k1, k2, k3⟩, -⟩ := F4.out
    clear hb hf HS3 B3 F3 hlN
    have HN := Lib.hid hN
    clear hN
    go_wp2_with fail
    refine (copyOwn' _ r w4 w.heap.size (HRW.out _ B4.out) B4.out.size SH.out).mono ?_
    rintro e w6 ⟨M, rfl, ho, hb, hM⟩
    have HNM := Lib.hid (show N ≤ M by rw [HN.out]; exact hM)
    have B6 := Lib.hid (base_step B4.out hb)
    have F6 := Lib.hid (F4.out.step hb)
    have W6 := Lib.hid (W4.out.low (hb.mono W4.out.le))
    have O6 := Lib.hid ho
    have hlt6 : w.heap.size < w6.heap.size := F6.out.lt
    have HI7 := Lib.hid (HIO.out _ _ (O6.out.box (.cells #[.int .i64 r.tapes, .int .i64 r.start, .slice (some ⟨M, 0, none⟩) r.accept.length r.accept.length, .slice (some ⟨M + 1, 0, none⟩) r.next.length r.next.length] 30)).reads)
    clear ho hb hM k0 k1 k2 k3 B4 F4 W4
    go_wp2_with fail
    refine HI7.out.mono ?_
    rintro e w8 ⟨vg, rfl, hf, hb⟩
    have CK8 := Lib.hid (show Ck w r va vn N vw L (w6.heap.size + 1) vg M w6.heap.size w8 from by
      have hs : (w6.alloc (.cells #[.int .i64 r.tapes, .int .i64 r.start, .slice (some ⟨M, 0, none⟩) r.accept.length r.accept.length, .slice (some ⟨M + 1, 0, none⟩) r.next.length r.next.length] 30)).heap.size = w6.heap.size + 1 := size_alloc' _ _
      have h1 := base_step (base_box B6.out _) hb
      refine ⟨⟨h1, (F6.out.box _).step hb, (W6.out.low ((Below.refl _ _).alloc W6.out.le _)).low (hb.mono (by rw [hs]; have := W6.out.le; omega)), ?_, by have := HwN.out; omega, Nat.le_succ _, by have := W6.out.le; omega, by rw [← hs]; exact hb.size⟩, (Cp.new O6.out _).step hb, HNM.out, Nat.lt_succ_self _⟩
      rw [← hs]; exact FreshS.row hf)
    obtain ⟨X, hX⟩ : ∃ X, X = w6.heap.size := ⟨_, rfl⟩
    rw [← hX] at CK8
    have HX := Lib.hid hX
    clear hb hf hX HI7 B6 F6 W6 O6 hlt6
    go_wp2_with fail
    rw [← HX.out]
    clear HX
    refine (eqStrs L L vg vw w8 w8.heap.size (Row.strs CK8.out.st.new HLL.out HLS.out) (CK8.out.st.old.strs.mono CK8.out.st.old.le)).mono ?_
    rw [same_self]
    rintro e w9 ⟨rfl, m9, rfl⟩
    have CK9 := Lib.hid (CK8.out.step (below_drewN (Below.refl _ _) m9))
    generalize w8.drewN m9 = w9 at CK9 ⊢
    clear CK8
    obtain ⟨⟨q0, q1, q2, q3⟩, hlq⟩ := CK9.out.cp.xb
    obtain ⟨⟨k0, k1, k2, k3⟩, hlk⟩ := CK9.out.st.ext
    go_upto_region 10 with fail
    go_cut [45] (fun v45 wx => v45 = .bool false ∧ Ck w r va vn N vw L (X + 1) vg M X wx)
    case first =>
      go_region_with (first
        | (go_at_call 10; refine (copyOwn _ r _ w.heap.size (HRW.out _ CK9.out.drew.st.base) CK9.out.drew.st.base.size SH.out).mono ?_; rintro e w11 ⟨M11, rfl, ho, hb⟩; have CK11 := Lib.hid (CK9.out.drew.step hb); have O11 := Lib.hid ho; obtain ⟨⟨p0, p1, p2, p3⟩, -⟩ := CK11.out.cp.xb; clear hb ho)
        | (go_at_call 13; refine (eqRelation _ _ r r w11 w11.heap.size CK11.out.cp.own.reads O11.out.reads (Nat.le_refl _)).mono ?_; rw [sameRel_self]; rintro e w12 ⟨rfl, hb⟩; have CK12 := Lib.hid (CK11.out.step hb); clear hb p0 p1 p2 p3))
      all_goals
        go_wp2_with fail
        go_meet
        exact ⟨rfl, CK12.out⟩
    case rest =>
      obtain ⟨rfl, hck⟩ := hcut
      have CK := Lib.hid hck
      obtain ⟨V', hRF, hin⟩ := own_relF hck.cp.own
      have HIN := Lib.hid hin
      obtain ⟨p, hp⟩ : ∃ p, p = 1 + r.accept.length + sumTo (lenF r.next) r.next.length := ⟨_, rfl⟩
      have hp0 : p ≤ 1048577 := by have := SS.out; omega
      have HMK := Lib.hid (markRel r.tapes r.start _ _ _ _ _ V' _ _ 1 M _ hRF (by have := hck.cp.own.top; omega) (by have := SS.out; omega) (by omega) (by have := SS.out; omega) (fun h => by have := SS.out; omega))
      rw [← hp] at HMK
      clear q0 q1 q2 q3 hlq k0 k1 k2 k3 hlk hp hRF hin CK9
      obtain ⟨⟨q0, q1, q2, q3⟩, hlq⟩ := hck.cp.xb
      clear hck
      go_wp2_with fail
      refine HMK.out.mono ?_
      rintro e w13 ⟨rfl, -, ho⟩
      have S13 := Lib.hid (CK.out.st.markX (ar_keeps w r va vn) ho (fun b hb => by have h1 := HIN.out b hb; have h2 := CK.out.hNM; have h3 := CK.out.cp.hX; have h4 := CK.out.hXl; omega))
      clear ho HMK HIN CK q0 q1 q2 q3 hlq
      go_wp2_with fail
      refine (eqStrs L L vg vw w13 w13.heap.size (Row.strs S13.out.new HLL.out HLS.out) (S13.out.old.strs.mono S13.out.old.le)).mono ?_
      rw [same_self]
      rintro e w14 ⟨rfl, m14, rfl⟩
      have S14 := Lib.hid (S13.out.step (ar_keeps w r va vn) (below_drewN (Below.refl _ _) m14))
      generalize w13.drewN m14 = w14 at S14 ⊢
      clear S13
      go_wp2_with fail
      refine (HMS.out _ _ _ _ S14.out.new).mono ?_
      rintro e w15 ⟨rfl, hr, hg⟩
      have S15 := Lib.hid (S14.out.markG (ar_keeps w r va vn) hg hr)
      clear hg hr S14
      go_wp2_with fail
      refine (HHS.out _ _ (S15.out.new.reads HLM.out)).mono ?_
      rintro e w16 ⟨rfl, hb⟩
      have S16 := Lib.hid (S15.out.step (ar_keeps w r va vn) hb)
      clear hb S15
      obtain ⟨⟨k0, k1, k2, k3⟩, hlk⟩ := S16.out.ext
      go_wp2_with fail
      refine (copyOwn _ r _ w.heap.size (HRW.out _ S16.out.base) S16.out.base.size SH.out).mono ?_
      rintro e w17 ⟨M17, rfl, ho, hb⟩
      have S17 := Lib.hid (S16.out.step (ar_keeps w r va vn) hb)
      have HI17 := Lib.hid (HIO.out _ _ ho.reads)
      clear hb ho S16 k0 k1 k2 k3 hlk
      go_wp2_with fail
      refine HI17.out.mono ?_
      rintro e w18 ⟨vh, rfl, hf, hb⟩
      have S18 := Lib.hid (S17.out.step (ar_keeps w r va vn) hb)
      have H18 := Lib.hid (freshS_old hf HLL.out HLS.out)
      clear hf hb S17 HI17
      go_wp2_with fail
      refine (eqStrs L L vh vw w18 w18.heap.size H18.out.strs (S18.out.old.strs.mono S18.out.old.le)).mono ?_
      rw [same_self]
      rintro e w19 ⟨rfl, m19, rfl⟩
      have S19 := Lib.hid (S18.out.step (ar_keeps w r va vn) (below_drewN (Below.refl _ _) m19))
      generalize w18.drewN m19 = w19 at S19 ⊢
      clear S18 H18
      go_wp2_with fail
      refine (HHS.out _ _ (S19.out.new.reads HLM.out)).mono ?_
      rintro e w20 ⟨rfl, hb⟩
      have B20 := Lib.hid (base_step S19.out.base hb)
      clear hb
      go_wp2_with fail
      go_ret
      exact ⟨rfl, B20.out⟩
theorem tupleL_len (r : R) : (TupleI.tupleL r).length ≤ 3 := by
  unfold TupleI.tupleL
  by_cases h : Valid.okB r = true
  · rw [if_pos h]
    have e1 := (SpecTidyRel.okL h).1.2
    exact Found.foundL_len e1.k3 _
  · rw [if_neg h]; exact Nat.zero_le _
theorem tupleL_short (r : R) (i : Nat) : ((TupleI.tupleL r).getD i ByteArray.empty).size ≤ maxLen := by
  unfold TupleI.tupleL
  by_cases h : Valid.okB r = true
  · rw [if_pos h]; exact Found.foundL_short _ _ _
  · rw [if_neg h]; simp [List.getD]
theorem closed (w : World) (v : Value) (r : R) (hr : RelAt w w.heap.size v r) :
    Calls Try.prog 4 #[v] w fun e w' => e = .returned (.bool true) ∧ Below w.heap.size w w' :=
  law w v r hr (TupleI.tupleC r) (TupleI.tupleL r) (fun v W h => TupleS.tupleS v r W W.heap.size h (Nat.le_refl _)) (fun v W h => TupleI.tupleI v r W W.heap.size h (Nat.le_refl _)) (tupleL_len r) (tupleL_short r)
end Go.Proofs.Ytjplmmokbkkclaa.LawFirstTuple
