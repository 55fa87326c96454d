
/- The program's function that puts the repeated transducer together, or panics.
   Conditions: the transducer is read as XEdg's text says, and is valid. -/
import Derived.Test.YtjoiaenkmmmmpaaGrowN
namespace Go.Proofs.Ytjoiaenkmmmmpaa.RepImpl
set_option linter.unusedVariables false
set_option linter.unusedSimpArgs false
set_option maxRecDepth 100000
open Go.RowKit Mem Copy Rel Heap MarkRow Edg EdgCopy EdgEq TrHeap TrLawKit TrValid TrImplValid TurnImpl TurnSpec TrReach TrReached TrimKit AddSpec ToldTr Grow GrowS RepSpec GrowN

theorem news_one (w : World) (b : Bool) : ∀ j u, ([b].map Value.bool)[j]? = some u → (w.alloc (.cells #[Value.bool b] 4)).cell? ((⟨w.heap.size, 0, none⟩ : Addr).add j) = some u := by
  intro j u hj
  cases j with
  | zero => simp at hj; subst hj; exact World.cell?_alloc_mark ..
  | succ j => simp at hj

set_option maxHeartbeats 8000000 in
theorem repeated (v : Value) (t : T) (w : World) (B : Nat) (h : TrAt w B v t) (hB : B ≤ w.heap.size) (hok : okT t = true) (hins : Inside t.accept.length t.edges) :
    Calls Try.prog 57 #[v] w fun e w' => Below w.heap.size w w' ∧
      ((fitsT (repA t) (repN t) = true ∧ ∃ va vn, e = .returned (.agg #[.int .i64 0, va, vn]) ∧ BuiltT w' w.heap.size va vn (repA t) (repN t)) ∨
        (fitsT (repA t) (repN t) = false ∧ e = .panicked [{ v := .iface 109 (.agg #[]), recovered := false }])) := by
  obtain ⟨hn1, hn2, hq, hs0, hs1, -⟩ := ok_parts hok
  obtain ⟨va, vn, rfl, hacc, hed⟩ := h
  obtain ⟨ts, ta, te⟩ := t
  simp only at hn1 hn2 hq hs0 hs1 hins hacc hed ⊢
  obtain ⟨st, rfl⟩ := Int.eq_ofNat_of_zero_le hs0
  have HED := Lib.hid (fun W (hb : Below w.heap.size w W) => (show Edges W B vn te from hed.below hb hB))
  have HAC := Lib.hid (fun W (hb : Below w.heap.size w W) => (show Bools W B va ta from hacc.below hb hB))
  have HFT := Lib.hid (show ∀ i, i < te.length → (te.getD i noE).Fits by obtain ⟨_, _, _, _, _, _, _, hc⟩ := hed; exact fun i hi => (hc i hi).2)
  obtain ⟨aa, ba, oa, ca, rfl, -, haa, -⟩ := hacc
  obtain ⟨rfl, hab⟩ := haa (by omega)
  obtain ⟨ab, bb, ob, cb, rfl, -, hbb, -⟩ := hed
  have HBB2 := Lib.hid hbb
  obtain ⟨n, hnn⟩ : ∃ n, n = ta.length := ⟨_, rfl⟩
  obtain ⟨q, hqq⟩ : ∃ q, q = te.length := ⟨_, rfl⟩
  rw [← hnn] at hn1 hn2 hs1 hins HAC ⊢
  rw [← hqq] at hq HED HBB2 ⊢
  have HN := Lib.hid hnn
  have HQ := Lib.hid hqq
  have HIN := Lib.hid hins
  have HBB := Lib.hid hB
  have HK0 := Lib.hid (show K2 w #[.int .i64 (st : Nat), .slice (some ⟨ba, oa, none⟩) n ca, .slice ab q cb] ((w.alloc (.cells #[.int .i64 (st : Nat), .slice (some ⟨ba, oa, none⟩) n ca, .slice ab q cb] 30)).alloc (.cells #[Value.int .i64 0, .slice none 0 0, .slice none 0 0] 30)) from Below.refl _ _)
  clear hok hs0 haa hab hbb hnn hqq hins hB
  go_enter Try.func57, Try.ntmps57
  go_upto_region 1 with fail
  generalize hW : (w.alloc (.cells #[.int .i64 (st : Nat), .slice (some ⟨ba, oa, none⟩) n ca, .slice ab q cb] 30)).alloc (.cells #[Value.int .i64 0, .slice none 0 0, .slice none 0 0] 30) = W at HK0 ⊢
  clear hW
  go_wp2_with fail
  refine (newMachine W).mono ?_
  rintro e w1 ⟨rfl, hb1, hbel1⟩
  obtain ⟨Z, hZ⟩ : ∃ Z, Z = W.heap.size := ⟨_, rfl⟩
  rw [← hZ] at hb1 ⊢
  have hZC : w.heap.size + 2 ≤ Z := by rw [hZ]; exact K2.size HK0.out
  have HK1 := Lib.hid (K2.step HK0.out hbel1)
  have HG1 := Lib.hid (hb1.alloc (.cells #[Value.bool true] 4))
  have HW1 := Lib.hid (K2.step HK1.out ((Below.refl _ _).alloc (Nat.le_refl _) (.cells #[Value.bool true] 4)))
  have HNW := Lib.hid (news_one w1 true)
  clear hb1 hbel1 hZ HK0
  go_wp2_with fail
  refine (addStates Z Z 0 _ _ [] [] [true] w1.heap.size 0 1 1 _ HG1.out rfl (by simp) (by omega) HNW.out).mono ?_
  rintro e w2 ⟨hb2, ⟨-, rfl, v2, hg2⟩ | ⟨hf, -⟩⟩
  case inr => simp at hf
  have HG2 := Lib.hid (show BldG w2 Z Z 0 v2 (.slice none 0 0) [true] [] from hg2)
  have HK2 := Lib.hid (show K2 w #[.int .i64 (st : Nat), .slice (some ⟨ba, oa, none⟩) n ca, .slice ab q cb] w2 from Below.trans HW1.out (hb2.mono hZC))
  clear hb2 hg2 HG1 HW1 HNW HK1
  obtain ⟨x0, x1, x2⟩ := K2.boxc HK2.out
  have l0 : w.heap.size < w2.heap.size := by have := K2.size HK2.out; omega
  have HNW := Lib.hid (news_bools (HAC.out _ (K2.base HK2.out)) (by rw [← HN.out]; omega))
  go_wp2_with fail
  clear x0 x1 x2 l0
  refine (addStates Z Z 0 _ _ [true] [] ta ba oa n ca _ HG2.out HN.out.symm (by simp) (by omega) HNW.out).mono ?_
  rintro e w3 ⟨hb3, ⟨hf, rfl, v3, hg3⟩ | ⟨hf, rfl⟩⟩
  case inr =>
    have HB3 := Lib.hid (Below.trans HK2.out (hb3.mono hZC))
    have HF := Lib.hid (show fitsT (repA ⟨(st : Nat), ta, te⟩) (repN ⟨(st : Nat), ta, te⟩) = false by
      unfold fitsT
      rw [decide_eq_false (by show ¬ (true :: ta).length ≤ 40; rw [List.length_cons, ← HN.out]; simp at hf; omega)]; rfl)
    clear hb3 hf
    go_wp2_with fail
    exact ⟨rfl, K2.base HB3.out, .inr ⟨HF.out, rfl⟩⟩
  have HS := Lib.hid (show n + 1 ≤ 40 by simp at hf; omega)
  have HK3 := Lib.hid (show K2 w #[.int .i64 (st : Nat), .slice (some ⟨ba, oa, none⟩) n ca, .slice ab q cb] w3 from Below.trans HK2.out (hb3.mono hZC))
  have HG3 := Lib.hid (show BldG w3 Z Z 0 v3 (.slice none 0 0) (true :: ta) [] from hg3)
  clear hb3 hf hg3 HG2 HK2 HNW
  obtain ⟨x0, x1, x2⟩ := K2.boxc HK3.out
  have l0 : w.heap.size < w3.heap.size := by have := K2.size HK3.out; omega
  have hwr : IntKind.i64.wrap ((1 : Int) + (st : Int)) = (1 : Int) + st := by rw [IntKind.wrap_i64]; omega
  have HE1 := Lib.hid (edges_one w3 ⟨0, (1 : Int) + (st : Int), ⟨#[]⟩, ⟨#[]⟩⟩ ⟨Nat.zero_le _, Nat.zero_le _⟩)
  have HG4 := Lib.hid (HG3.out.alloc (boxE ⟨0, (1 : Int) + (st : Int), ⟨#[]⟩, ⟨#[]⟩⟩))
  have HK4 := Lib.hid (K2.step HK3.out ((Below.refl _ _).alloc (Nat.le_refl _) (boxE ⟨0, (1 : Int) + (st : Int), ⟨#[]⟩, ⟨#[]⟩⟩)))
  have HNE := Lib.hid (show 0 < [(⟨0, (1 : Int) + (st : Int), ⟨#[]⟩, ⟨#[]⟩⟩ : E)].length → ∀ b o l c, Value.slice (some ⟨w3.heap.size, 0, none⟩) 1 1 = .slice (some ⟨b, o, none⟩) l c → b ≠ Z ∧ (Value.slice none 0 0).ownBlock ≠ some b from fun _ b o l c e => by
    injection e with e1 _ _
    injection e1 with e2
    injection e2 with e3
    exact ⟨by have := HG3.out.lt; omega, fun e => by cases e⟩)
  go_wp2_with fail
  clear x0 x1 x2 l0
  refine (GrowE.addEdges [⟨0, (1 : Int) + (st : Int), ⟨#[]⟩, ⟨#[]⟩⟩] _ 0 Z Z 1000 0 _ _ _ _ _ HE1.out HG4.out (fun i hi => by
    obtain rfl : i = 0 := by simp at hi; omega
    exact ⟨by show (0 : Int) ≤ 0; omega, by show (0 : Int) < _; omega, by show (0 : Int) ≤ (1 : Int) + (st : Int); omega, by show (1 : Int) + (st : Int) < _; omega⟩) (by omega) (by simp) (by simp) (by omega) HNE.out).mono ?_
  rintro e w5 ⟨hb5, ⟨-, rfl, v5, hg5⟩ | ⟨hf, -⟩⟩
  case inr => simp at hf
  have HK5 := Lib.hid (show K2 w #[.int .i64 (st : Nat), .slice (some ⟨ba, oa, none⟩) n ca, .slice ab q cb] w5 from Below.trans HK4.out (hb5.mono hZC))
  have HG5 := Lib.hid (show BldG w5 Z Z 0 v3 v5 (true :: ta) [⟨0, (st : Int) + 1, ⟨#[]⟩, ⟨#[]⟩⟩] by rw [shift_zero, List.nil_append, Int.add_comm (1 : Int) (st : Int)] at hg5; exact hg5)
  clear hb5 hg5 HG3 HK3 HE1 HG4 HK4 HNE
  obtain ⟨x0, x1, x2⟩ := K2.boxc HK5.out
  have l0 : w.heap.size < w5.heap.size := by have := K2.size HK5.out; omega
  have HE5 := Lib.hid ((HED.out _ (K2.base HK5.out)).mono (show B ≤ w5.heap.size by have := HBB.out; omega))
  have HNE5 := Lib.hid (show 0 < te.length → ∀ b o l c, Value.slice ab q cb = .slice (some ⟨b, o, none⟩) l c → b ≠ Z ∧ v5.ownBlock ≠ some b from fun h0 b o l c e => by
    obtain ⟨rfl, hlt⟩ := HBB2.out (by rw [HQ.out]; exact h0)
    injection e with e1 _ _
    injection e1 with e2
    injection e2 with e3
    have h1 := HBB.out
    exact ⟨by omega, fun e => by have := HG5.out.edg.ge e; omega⟩)
  go_wp2_with fail
  clear x0 x1 x2 l0
  refine (GrowE.addEdges te _ 1 Z Z n 0 _ _ _ _ _ HE5.out HG5.out HIN.out (by omega) (by rw [← HQ.out]; omega) (by simp) (by omega) HNE5.out).mono ?_
  rintro e w6 ⟨hb6, ⟨hf, rfl, v6, hg6⟩ | ⟨hf, rfl⟩⟩
  case inr =>
    have HB6 := Lib.hid (Below.trans HK5.out (hb6.mono hZC))
    have HF := Lib.hid (show fitsT (repA ⟨(st : Nat), ta, te⟩) (repN ⟨(st : Nat), ta, te⟩) = false by
      unfold fitsT
      rw [decide_eq_false (p := (repN ⟨(st : Nat), ta, te⟩).length ≤ 200) (by unfold repN; rw [List.length_append, List.length_append, List.length_map]; simp at hf ⊢; omega), Bool.and_false])
    clear hb6 hf
    go_wp2_with fail
    exact ⟨rfl, K2.base HB6.out, .inr ⟨HF.out, rfl⟩⟩
  have HK6 := Lib.hid (show K2 w #[.int .i64 (st : Nat), .slice (some ⟨ba, oa, none⟩) n ca, .slice ab q cb] w6 from Below.trans HK5.out (hb6.mono hZC))
  have HL6 := Lib.hid (show ([(⟨0, (st : Int) + 1, ⟨#[]⟩, ⟨#[]⟩⟩ : E)] ++ te.map (shiftE 1)).length ≤ 200 by rw [List.length_append, List.length_map]; exact hf)
  have HG6 := Lib.hid hg6
  clear hb6 hf hg6 HG5 HK5 HE5 HNE5
  obtain ⟨x0, x1, x2⟩ := K2.boxc HK6.out
  have l0 : w.heap.size < w6.heap.size := by have := K2.size HK6.out; omega
  have HA6 := Lib.hid (HAC.out _ (K2.base HK6.out))
  go_wp2_with fail
  clear x0 x1 x2 l0
  refine (addEnds (st : Nat) ta _ _ 1 0 Z Z B 0 _ _ _ _ _ HA6.out (by have := HBB.out; omega) HG6.out HL6.out (by rw [← HN.out]; omega) (by omega) (by omega)).mono ?_
  rintro e w7 ⟨hb7, ⟨hf, rfl, v7, hg7⟩ | ⟨hf, rfl⟩⟩
  case inr =>
    have HB7 := Lib.hid (Below.trans HK6.out (hb7.mono hZC))
    have HF := Lib.hid (show fitsT (repA ⟨(st : Nat), ta, te⟩) (repN ⟨(st : Nat), ta, te⟩) = false by
      unfold fitsT
      rw [decide_eq_false (p := (repN ⟨(st : Nat), ta, te⟩).length ≤ 200) (by unfold repN; rw [List.length_append]; exact Nat.not_le.2 hf), Bool.and_false])
    clear hb7 hf
    go_wp2_with fail
    exact ⟨rfl, K2.base HB7.out, .inr ⟨HF.out, rfl⟩⟩
  have HK7 := Lib.hid (show K2 w #[.int .i64 (st : Nat), .slice (some ⟨ba, oa, none⟩) n ca, .slice ab q cb] w7 from Below.trans HK6.out (hb7.mono hZC))
  have HF := Lib.hid (show fitsT (repA ⟨(st : Nat), ta, te⟩) (repN ⟨(st : Nat), ta, te⟩) = true by
    unfold fitsT
    rw [decide_eq_true (p := (repN ⟨(st : Nat), ta, te⟩).length ≤ 200) (by unfold repN; rw [List.length_append]; exact hf), decide_eq_true (by show (true :: ta).length ≤ 40; rw [List.length_cons, ← HN.out]; exact HS.out)]; rfl)
  have HG7 := Lib.hid (show BldG w7 Z Z 0 v3 v7 (repA ⟨(st : Nat), ta, te⟩) (repN ⟨(st : Nat), ta, te⟩) from hg7)
  have HLN := Lib.hid (show (repN ⟨(st : Nat), ta, te⟩).length ≤ 200 by unfold repN; rw [List.length_append]; exact hf)
  clear hb7 hf hg7 HG6 HK6 HA6 HL6
  obtain ⟨a3, n3, c3, rfl, -⟩ := HG7.out.acc.shape'
  obtain ⟨a7, n7, c7, rfl, -⟩ := HG7.out.edg.shape'
  obtain ⟨r0, r1, r2, t0, t1, t2⟩ := K2.cells HK7.out
  have b0 := (cell_of_block HG7.out.at_ 0).1
  have b1 := (cell_of_block HG7.out.at_ 1).1
  have b2 := (cell_of_block HG7.out.at_ 2).1
  simp at b0 b1 b2
  have hl := K2.size HK7.out
  have b6 := HG7.out.lt
  go_wp2
  obtain ⟨g0, g1, g2⟩ := put3_cells (a := .int .i64 0) (b := .slice a3 n3 c3) (c := .slice a7 n7 c7) (K2.res HK7.out)
  refine bodyPost_ret (v := .agg #[.int .i64 0, .slice a3 n3 c3, .slice a7 n7 c7]) (by simp [results, Try.results57, go_sem, g0, g1, g2]) rfl ⟨put3_below (K2.base HK7.out) (by omega), .inl ⟨HF.out, _, _, rfl, BuiltT.mono (BuiltT.put3 (B := Z) ⟨HG7.out.acc, HG7.out.edg, repN_fits HFT.out, by have := HLN.out; omega⟩ (by omega)) (by omega)⟩⟩
end Go.Proofs.Ytjoiaenkmmmmpaa.RepImpl
