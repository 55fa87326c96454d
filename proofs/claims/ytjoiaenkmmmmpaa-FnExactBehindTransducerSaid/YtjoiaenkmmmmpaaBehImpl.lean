
/- The program's function that puts two transducers together, or panics.
   Conditions: the transducers are read as XEdg's text says, and are valid. -/
import Derived.Test.YtjoiaenkmmmmpaaBehSpec
import Derived.Test.YtjoiaenkmmmmpaaEitImpl
namespace Go.Proofs.Ytjoiaenkmmmmpaa.BehImpl
set_option linter.unusedVariables false
set_option linter.unusedSimpArgs false
set_option maxRecDepth 100000
open Go.RowKit Mem Copy Rel Heap MarkRow Edg EdgCopy EdgEq TrHeap TrLawKit TrValid TrImplValid TurnImpl TurnSpec TrReach TrReached TrimKit AddSpec ToldTr Grow GrowS RepSpec GrowN RepImpl TwoTr EitSpec EitImpl BehSpec

theorem BldG.setStart {w : World} {B ob : Nat} {s x : Int} {va vn : Value} {A : List Bool} {es : List E} (h : BldG w B ob s va vn A es) : BldG (w.setCell ⟨ob, 0, none⟩ (.int .i64 x)) B ob x va vn A es :=
  ⟨h.acc.setOther (a := ⟨ob, 0, none⟩) (block_apart h.acc h.at_ (by decide)) _, h.edg.setOther (a := ⟨ob, 0, none⟩) (apartE h.edg h.at_ (by decide)) _, blk_set h.at_, h.obB⟩
theorem news_made (w : World) (n : Nat) : ∀ j u, ((List.replicate n false).map Value.bool)[j]? = some u → (w.alloc (.cells (madeCells #[Value.bool false] n) 4)).cell? ((⟨w.heap.size, 0, none⟩ : Addr).add j) = some u := by
  intro j u hj
  have hadd : (⟨w.heap.size, 0, none⟩ : Addr).add j = ⟨w.heap.size, j, none⟩ := by unfold Addr.add; split <;> simp_all
  obtain ⟨hj1, hj2⟩ := List.getElem?_eq_some_iff.1 hj
  have hjn : j < n := by simpa using hj1
  have hu : u = .bool false := by rw [← hj2]; simp
  have hr : (w.alloc (.cells (madeCells #[Value.bool false] n) 4)).rowIs w.heap.size 4 n (fun _ => Value.bool false) := World.rowIs_made _ _ _ _
  rw [hadd, hr.cell hjn, hu]

set_option maxHeartbeats 8000000 in
theorem behindOf (v v' : Value) (s t : T) (w : World) (B : Nat) (h : TrAt w B v s) (h' : TrAt w B v' t) (hB : B ≤ w.heap.size) (hok : okT s = true) (hok' : okT t = true) :
    Calls Try.prog 60 #[v, v'] w fun e w' => Below w.heap.size w w' ∧
      ((fitsT (behA s t) (behN s t) = true ∧ ∃ va vn, e = .returned (.agg #[.int .i64 s.start, va, vn]) ∧ BuiltT w' w.heap.size va vn (behA s t) (behN s t)) ∨
        (fitsT (behA s t) (behN s t) = false ∧ e = .panicked [{ v := .iface 109 (.agg #[]), recovered := false }])) := by
  obtain ⟨hn1, hn2, hq, hs0, hs1, -⟩ := ok_parts hok
  obtain ⟨gn1, gn2, gq, gs0, gs1, -⟩ := ok_parts hok'
  have hins := inside_of hok
  have gins := inside_of hok'
  obtain ⟨va, vn, rfl, hacc, hed⟩ := h
  obtain ⟨ua, un, rfl, gacc, ged⟩ := h'
  obtain ⟨ss, sa, se⟩ := s
  obtain ⟨ts, ta, te⟩ := t
  simp only at hn1 hn2 hq hs0 hs1 hins hacc hed gn1 gn2 gq gs0 gs1 gins gacc ged ⊢
  obtain ⟨p, rfl⟩ := Int.eq_ofNat_of_zero_le hs0
  obtain ⟨r, rfl⟩ := Int.eq_ofNat_of_zero_le gs0
  have HED := Lib.hid (fun W (hb : Below w.heap.size w W) => (show Edges W B vn se from hed.below hb hB))
  have GED := Lib.hid (fun W (hb : Below w.heap.size w W) => (show Edges W B un te from ged.below hb hB))
  have HAC := Lib.hid (fun W (hb : Below w.heap.size w W) => (show Bools W B va sa from hacc.below hb hB))
  have GAC := Lib.hid (fun W (hb : Below w.heap.size w W) => (show Bools W B ua ta from gacc.below hb hB))
  have HFS := Lib.hid (show ∀ i, i < se.length → (se.getD i noE).Fits by obtain ⟨_, _, _, _, _, _, _, hc⟩ := hed; exact fun i hi => (hc i hi).2)
  have HFT := Lib.hid (show ∀ i, i < te.length → (te.getD i noE).Fits by obtain ⟨_, _, _, _, _, _, _, hc⟩ := ged; exact fun i hi => (hc i hi).2)
  obtain ⟨aa, ba, oa, ca, rfl, -, haa, -⟩ := hacc
  obtain ⟨rfl, hab⟩ := haa (by omega)
  obtain ⟨ad, bd, od, cd, rfl, -, gaa, -⟩ := gacc
  obtain ⟨rfl, gab⟩ := gaa (by omega)
  obtain ⟨ab, bb, ob, cb, rfl, -, hbb, -⟩ := hed
  obtain ⟨ae, be, oe, ce, rfl, -, gbb, -⟩ := ged
  have HBB2 := Lib.hid hbb
  have GBB2 := Lib.hid gbb
  obtain ⟨n, hnn⟩ : ∃ n, n = sa.length := ⟨_, rfl⟩
  obtain ⟨m, hmm⟩ : ∃ m, m = ta.length := ⟨_, rfl⟩
  obtain ⟨q, hqq⟩ : ∃ q, q = se.length := ⟨_, rfl⟩
  obtain ⟨z, hzz⟩ : ∃ z, z = te.length := ⟨_, rfl⟩
  rw [← hnn] at hn1 hn2 hs1 hins HAC ⊢
  rw [← hmm] at gn1 gn2 gs1 gins GAC ⊢
  rw [← hqq] at hq HED HBB2 ⊢
  rw [← hzz] at gq GED GBB2 ⊢
  have HN := Lib.hid hnn
  have HM := Lib.hid hmm
  have HQ := Lib.hid hqq
  have HZ := Lib.hid hzz
  have HIN := Lib.hid hins
  have HJN := Lib.hid gins
  have HBB := Lib.hid hB
  have HLA := Lib.hid (show (behA ⟨(p : Nat), sa, se⟩ ⟨(r : Nat), ta, te⟩).length = n + m by unfold behA; simp only [List.length_append, List.length_replicate]; rw [← hnn, ← hmm])
  have HNF := Lib.hid (show behN ⟨(p : Nat), sa, se⟩ ⟨(r : Nat), ta, te⟩ = (se.map (shiftE 0) ++ endsTo 0 (r + n) sa n) ++ te.map (shiftE n) by unfold behN; simp only; rw [← hnn]; rfl)
  have HLE := Lib.hid (show (behN ⟨(p : Nat), sa, se⟩ ⟨(r : Nat), ta, te⟩).length = q + (endsTo 0 (r + n) sa n).length + z by rw [HNF.out]; simp only [List.length_append, List.length_map]; rw [← hqq, ← hzz])
  have HEA := Lib.hid (show List.replicate n false ++ ta = behA ⟨(p : Nat), sa, se⟩ ⟨(r : Nat), ta, te⟩ from by unfold behA; simp only; rw [← hnn])
  obtain ⟨c, hc⟩ : ∃ c : Array Value, c = #[.int .i64 (p : Nat), .slice (some ⟨ba, oa, none⟩) n ca, .slice ab q cb] := ⟨_, rfl⟩
  obtain ⟨d, hd⟩ : ∃ d : Array Value, d = #[.int .i64 (r : Nat), .slice (some ⟨bd, od, none⟩) m cd, .slice ae z ce] := ⟨_, rfl⟩
  have HX1 := Lib.hid (fun W (hb : K22 w c d W) => (show W.cell? ⟨w.heap.size, 0, none⟩ = some (.int .i64 (p : Nat)) ∧ W.cell? ⟨w.heap.size, 1, none⟩ = some (.slice (some ⟨ba, oa, none⟩) n ca) ∧ W.cell? ⟨w.heap.size, 2, none⟩ = some (.slice ab q cb) ∧ w.heap.size < W.heap.size from by have h3 := K22.size hb; rw [hc] at hb; exact ⟨(K22.box1 hb).1, (K22.box1 hb).2.1, (K22.box1 hb).2.2, by omega⟩))
  have HX2 := Lib.hid (fun W (hb : K22 w c d W) => (show W.cell? ⟨w.heap.size + 1, 0, none⟩ = some (.int .i64 (r : Nat)) ∧ W.cell? ⟨w.heap.size + 1, 1, none⟩ = some (.slice (some ⟨bd, od, none⟩) m cd) ∧ W.cell? ⟨w.heap.size + 1, 2, none⟩ = some (.slice ae z ce) ∧ w.heap.size + 1 < W.heap.size from by have h3 := K22.size hb; rw [hd] at hb; exact ⟨(K22.box2 hb).1, (K22.box2 hb).2.1, (K22.box2 hb).2.2, by omega⟩))
  have HK0 := Lib.hid (show K22 w c d (((w.alloc (.cells c 30)).alloc (.cells d 30)).alloc zeroT) from Below.refl _ _)
  clear hok hok' hs0 gs0 haa hab gaa gab hbb gbb hnn hmm hqq hzz hins gins hB
  go_enter Try.func60, Try.ntmps60
  go_upto_region 1 with fail
  rw [← hc, ← hd]
  generalize hW : ((w.alloc (.cells c 30)).alloc (.cells d 30)).alloc (.cells #[Value.int .i64 0, .slice none 0 0, .slice none 0 0] 30) = W at HK0 ⊢
  clear hW hc hd
  obtain ⟨x0, x1, x2, l0⟩ := HX1.out _ HK0.out
  go_wp2_with fail
  refine (newMachine W).mono ?_
  rintro e w1 ⟨rfl, hb1, hbel1⟩
  obtain ⟨Z, hZ⟩ : ∃ Z, Z = W.heap.size := ⟨_, rfl⟩
  rw [← hZ] at hb1 ⊢
  have HZC := Lib.hid (show w.heap.size + 3 ≤ Z by rw [hZ]; exact K22.size HK0.out)
  have HK1 := Lib.hid (K22.step HK0.out hbel1)
  have HG1 := Lib.hid (BldG.setStart (x := (p : Nat)) hb1)
  have HKS := Lib.hid (show K22 w c d (w1.setCell ⟨Z, 0, none⟩ (.int .i64 (p : Nat))) from Below.setCell HK1.out (p := ⟨Z, 0, none⟩) (by rw [size_alloc']; exact HZC.out) _)
  have HMK := Lib.hid (run_make_row' (P := Try.prog) 22 4 (.bool false) 1 Try.underlying22 info4 rfl .i64 .i64 n (by omega) (by omega))
  have b0 := (cell_of_block hb1.at_ 0).1
  have b1 := (cell_of_block hb1.at_ 0).2
  simp at b0
  have b6 := hb1.lt
  clear hb1 hbel1 hZ HK0 x0 x1 x2 l0
  obtain ⟨x0, x1, x2, l0⟩ := HX1.out _ HK1.out
  obtain ⟨WS, hWS⟩ : ∃ WS, WS = w1.setCell ⟨Z, 0, none⟩ (.int .i64 (p : Nat)) := ⟨_, rfl⟩
  have hmk := HMK.out
  go_upto_region 4 with fail
  rw [← hWS] at HG1 HKS ⊢
  clear hWS b0 b1 b6 x0 x1 x2 l0 HK1
  have HG2 := Lib.hid (HG1.out.alloc (.cells (madeCells #[Value.bool false] n) 4))
  have HW2 := Lib.hid (K22.step HKS.out ((Below.refl _ _).alloc (Nat.le_refl _) (.cells (madeCells #[Value.bool false] n) 4)))
  have HNW := Lib.hid (news_made WS n)
  clear HG1 HKS
  go_wp2_with fail
  clear hmk HMK
  refine (addStates Z Z (p : Nat) _ _ [] [] (List.replicate n false) WS.heap.size 0 n n _ HG2.out (by simp) (by simp) (by omega) HNW.out).mono ?_
  rintro e w3 ⟨hb3, ⟨-, rfl, v3, hg3⟩ | ⟨hf, -⟩⟩
  case inr => simp at hf; omega
  have HK3 := Lib.hid (K22.low HW2.out hb3 HZC.out)
  have HG3 := Lib.hid (show BldG w3 Z Z (p : Nat) v3 (.slice none 0 0) (List.replicate n false) [] from hg3)
  clear hb3 hg3 HG2 HW2 HNW
  obtain ⟨y0, y1, y2, l1⟩ := HX2.out _ HK3.out
  have HNW := Lib.hid (news_bools (GAC.out _ (K22.base HK3.out)) (by rw [← HM.out]; omega))
  go_wp2_with fail
  clear y0 y1 y2 l1
  refine (addStates Z Z (p : Nat) _ _ _ [] ta bd od m cd _ HG3.out HM.out.symm (by rw [List.length_replicate]; omega) (by omega) HNW.out).mono ?_
  rintro e w4 ⟨hb4, ⟨hf, rfl, v4, hg4⟩ | ⟨hf, rfl⟩⟩
  case inr =>
    have HB4 := Lib.hid (K22.low HK3.out hb4 HZC.out)
    have HF := Lib.hid (fits_statesF (N := behN ⟨(p : Nat), sa, se⟩ ⟨(r : Nat), ta, te⟩) (show 40 < (behA ⟨(p : Nat), sa, se⟩ ⟨(r : Nat), ta, te⟩).length by rw [HLA.out]; rw [List.length_replicate] at hf; exact hf))
    clear hb4 hf
    go_wp2_with fail
    exact ⟨rfl, K22.base HB4.out, .inr ⟨HF.out, rfl⟩⟩
  have HS4 := Lib.hid (show (behA ⟨(p : Nat), sa, se⟩ ⟨(r : Nat), ta, te⟩).length ≤ 40 by rw [HLA.out]; rw [List.length_replicate] at hf; exact hf)
  have HK6 := Lib.hid (K22.low HK3.out hb4 HZC.out)
  have HG6 := Lib.hid (show BldG w4 Z Z (p : Nat) v4 (.slice none 0 0) (behA ⟨(p : Nat), sa, se⟩ ⟨(r : Nat), ta, te⟩) [] by rw [← HEA.out]; exact hg4)
  clear hb4 hf hg4 HG3 HK3 HNW
  obtain ⟨x0, x1, x2, l0⟩ := HX1.out _ HK6.out
  have HE6 := Lib.hid ((HED.out _ (K22.base HK6.out)).mono (show B ≤ w4.heap.size by have := HBB.out; have := K22.size HK6.out; omega))
  have HNE6 := Lib.hid (show 0 < se.length → ∀ b o l c, Value.slice ab q cb = .slice (some ⟨b, o, none⟩) l c → b ≠ Z ∧ (Value.slice none 0 0).ownBlock ≠ some b from fun h0 b o l c e => by
    obtain ⟨rfl, hlt⟩ := HBB2.out (by rw [HQ.out]; exact h0)
    injection e with e1 _ _
    injection e1 with e2
    injection e2 with e3
    have h1 := HBB.out
    have h2 := HZC.out
    exact ⟨by omega, fun e => by cases e⟩)
  go_wp2_with fail
  clear x0 x1 x2 l0
  refine (GrowE.addEdges se _ 0 Z Z n (p : Nat) _ _ _ _ _ HE6.out HG6.out HIN.out (by omega) (by rw [← HQ.out]; omega) (by simp) (by omega) HNE6.out).mono ?_
  rintro e w6 ⟨hb6, ⟨-, rfl, v6, hg6⟩ | ⟨hf, -⟩⟩
  case inr => rw [← HQ.out] at hf; simp at hf; omega
  have HK7 := Lib.hid (K22.low HK6.out hb6 HZC.out)
  have HG7 := Lib.hid (show BldG w6 Z Z (p : Nat) v4 v6 (behA ⟨(p : Nat), sa, se⟩ ⟨(r : Nat), ta, te⟩) (se.map (shiftE 0)) from hg6)
  clear hb6 hg6 HG6 HK6 HE6 HNE6
  obtain ⟨x0, x1, x2, l0⟩ := HX1.out _ HK7.out
  obtain ⟨y0, y1, y2, l1⟩ := HX2.out _ HK7.out
  have HA7 := Lib.hid (HAC.out _ (K22.base HK7.out))
  have hwt : IntKind.i64.wrap ((n : Int) + (r : Int)) = ((r + n : Nat) : Int) := by rw [IntKind.wrap_i64]; omega
  go_wp2_with fail
  clear x0 x1 x2 l0 y0 y1 y2 l1 hwt
  refine (addEnds (p : Nat) sa _ _ 0 (r + n) Z Z B (p : Nat) _ _ _ _ _ HA7.out (by have := HBB.out; have := HZC.out; omega) HG7.out (by rw [List.length_map, ← HQ.out]; omega) (by rw [← HN.out]; omega) (by omega) (by omega)).mono ?_
  rw [← HN.out]
  rintro e w7 ⟨hb7, ⟨hf, rfl, v7, hg7⟩ | ⟨hf, rfl⟩⟩
  case inr =>
    have HB7 := Lib.hid (K22.low HK7.out hb7 HZC.out)
    have HF := Lib.hid (fits_edgesF (A := behA ⟨(p : Nat), sa, se⟩ ⟨(r : Nat), ta, te⟩) (show 200 < (behN ⟨(p : Nat), sa, se⟩ ⟨(r : Nat), ta, te⟩).length by rw [HLE.out]; rw [List.length_map, ← HQ.out] at hf; omega))
    clear hb7 hf
    go_wp2_with fail
    exact ⟨rfl, K22.base HB7.out, .inr ⟨HF.out, rfl⟩⟩
  have HK8 := Lib.hid (K22.low HK7.out hb7 HZC.out)
  have HS8 := Lib.hid (show q + (endsTo 0 (r + n) sa n).length ≤ 200 by rw [List.length_map, ← HQ.out] at hf; exact hf)
  have HG8 := Lib.hid hg7
  clear hb7 hf hg7 HG7 HK7 HA7
  obtain ⟨y0, y1, y2, l1⟩ := HX2.out _ HK8.out
  have HE8 := Lib.hid ((GED.out _ (K22.base HK8.out)).mono (show B ≤ w7.heap.size by have := HBB.out; have := K22.size HK8.out; omega))
  have HNE8 := Lib.hid (show 0 < te.length → ∀ b o l c, Value.slice ae z ce = .slice (some ⟨b, o, none⟩) l c → b ≠ Z ∧ v7.ownBlock ≠ some b from fun h0 b o l c e => by
    obtain ⟨rfl, hlt⟩ := GBB2.out (by rw [HZ.out]; exact h0)
    injection e with e1 _ _
    injection e1 with e2
    injection e2 with e3
    have h1 := HBB.out
    have h2 := HZC.out
    exact ⟨by omega, not_own HG8.out.edg (by omega)⟩)
  go_wp2_with fail
  clear y0 y1 y2 l1
  refine (GrowE.addEdges te _ n Z Z m (p : Nat) _ _ _ _ _ HE8.out HG8.out HJN.out (by omega) (by rw [← HZ.out]; omega) (by have h1 := HS8.out; rw [List.length_append, List.length_map, ← HQ.out]; omega) (by omega) HNE8.out).mono ?_
  rintro e w8 ⟨hb8, ⟨hf, rfl, v8, hg8⟩ | ⟨hf, rfl⟩⟩
  case inr =>
    have HB8 := Lib.hid (K22.low HK8.out hb8 HZC.out)
    have HF := Lib.hid (fits_edgesF (A := behA ⟨(p : Nat), sa, se⟩ ⟨(r : Nat), ta, te⟩) (show 200 < (behN ⟨(p : Nat), sa, se⟩ ⟨(r : Nat), ta, te⟩).length by rw [HLE.out]; rw [List.length_append, List.length_map, ← HQ.out, ← HZ.out] at hf; exact hf))
    clear hb8 hf
    go_wp2_with fail
    exact ⟨rfl, K22.base HB8.out, .inr ⟨HF.out, rfl⟩⟩
  have HK9 := Lib.hid (K22.low HK8.out hb8 HZC.out)
  have HLN := Lib.hid (show (behN ⟨(p : Nat), sa, se⟩ ⟨(r : Nat), ta, te⟩).length ≤ 200 by rw [HLE.out]; rw [List.length_append, List.length_map, ← HQ.out, ← HZ.out] at hf; exact hf)
  have HG9 := Lib.hid (show BldG w8 Z Z (p : Nat) v4 v8 (behA ⟨(p : Nat), sa, se⟩ ⟨(r : Nat), ta, te⟩) (behN ⟨(p : Nat), sa, se⟩ ⟨(r : Nat), ta, te⟩) by rw [HNF.out]; exact hg8)
  have HF := Lib.hid (fits_yes HS4.out HLN.out)
  clear hb8 hf hg8 HG8 HK8 HE8 HNE8
  obtain ⟨a3, n3, c3, rfl, -⟩ := HG9.out.acc.shape'
  obtain ⟨a7, n7, c7, rfl, -⟩ := HG9.out.edg.shape'
  obtain ⟨r0, r1, r2, t0, t1, t2⟩ := K22.cells HK9.out
  have b0 := (cell_of_block HG9.out.at_ 0).1
  have b1 := (cell_of_block HG9.out.at_ 1).1
  have b2 := (cell_of_block HG9.out.at_ 2).1
  simp at b0 b1 b2
  have hl := K22.size HK9.out
  have b6 := HG9.out.lt
  go_wp2
  obtain ⟨g0, g1, g2⟩ := put3_cells (a := .int .i64 (p : Nat)) (b := .slice a3 n3 c3) (c := .slice a7 n7 c7) (K22.res HK9.out)
  refine bodyPost_ret (v := .agg #[.int .i64 (p : Nat), .slice a3 n3 c3, .slice a7 n7 c7]) (by simp [results, Try.results60, go_sem, g0, g1, g2]) rfl ⟨put3_below (K22.base HK9.out) (by omega), .inl ⟨HF.out, _, _, rfl, BuiltT.mono (BuiltT.put3 (B := Z) ⟨HG9.out.acc, HG9.out.edg, behN_fits HFS.out HFT.out, by have := HLN.out; omega⟩ (by have := HZC.out; omega)) (by have := HZC.out; omega)⟩⟩
end Go.Proofs.Ytjoiaenkmmmmpaa.BehImpl
