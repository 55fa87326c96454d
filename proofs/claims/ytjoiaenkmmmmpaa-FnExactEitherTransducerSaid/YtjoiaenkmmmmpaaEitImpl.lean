
/- The program's function that puts two transducers together, or panics.
   Conditions: the transducers are read as XEdg's text says, and are valid. -/
import Derived.Test.YtjoiaenkmmmmpaaEitSpec
import Derived.Test.YtjoiaenkmmmmpaaRepImpl
namespace Go.Proofs.Ytjoiaenkmmmmpaa.EitImpl
set_option linter.unusedVariables false
set_option linter.unusedSimpArgs false
set_option maxRecDepth 100000
open Go.RowKit Mem Copy Rel Heap MarkRow Edg EdgCopy EdgEq TrHeap TrLawKit TrValid TrImplValid TurnImpl TurnSpec TrReach TrReached TrimKit AddSpec ToldTr Grow GrowS RepSpec GrowN RepImpl TwoTr EitSpec

theorem edges_two (w : World) (x y : E) (hx : x.Fits) (hy : y.Fits) : Edges (w.alloc (boxE2 x y)) (w.alloc (boxE2 x y)).heap.size (.slice (some ⟨w.heap.size, 0, none⟩) 2 2) [x, y] := by
  have hbx := heap_alloc_new w (boxE2 x y)
  refine ⟨_, w.heap.size, 0, 2, rfl, (show 2 ≤ maxLen by unfold maxLen; decide), fun _ => ⟨rfl, by rw [size_alloc']; omega⟩, fun i hi => ?_⟩
  have hi2 : i < 2 := hi
  match i, hi2 with
  | 0, _ => exact ⟨⟨(cell_of_block hbx 0).1, (cell_of_block hbx 1).1, (cell_of_block hbx 2).1, (cell_of_block hbx 3).1⟩, hx⟩
  | 1, _ => exact ⟨⟨(cell_of_block hbx 4).1, (cell_of_block hbx 5).1, (cell_of_block hbx 6).1, (cell_of_block hbx 7).1⟩, hy⟩
theorem shift_two (x y : E) : [x, y].map (shiftE 0) = [x, y] := by
  have h1 := shift_zero x
  have h2 := shift_zero y
  simp only [List.map_cons, List.map_nil, List.cons.injEq, and_true] at h1 h2 ⊢
  exact ⟨h1, h2⟩
theorem fits_statesF {A : List Bool} {N : List E} (h : 40 < A.length) : fitsT A N = false := by unfold fitsT; rw [decide_eq_false (by omega)]; rfl
theorem fits_edgesF {A : List Bool} {N : List E} (h : 200 < N.length) : fitsT A N = false := by unfold fitsT; rw [decide_eq_false (p := N.length ≤ 200) (by omega), Bool.and_false]
theorem fits_yes {A : List Bool} {N : List E} (h : A.length ≤ 40) (h2 : N.length ≤ 200) : fitsT A N = true := by unfold fitsT; rw [decide_eq_true h, decide_eq_true h2]; rfl
theorem not_own {w : World} {C : Nat} {vn : Value} {es : List E} {b : Nat} (h : LstE w C vn es) (hb : b < C) : vn.ownBlock ≠ some b := fun e => by have := h.ge e; omega

set_option maxHeartbeats 8000000 in
theorem eitherOf (v v' : Value) (s t : T) (w : World) (B : Nat) (h : TrAt w B v s) (h' : TrAt w B v' t) (hB : B ≤ w.heap.size) (hok : okT s = true) (hok' : okT t = true) :
    Calls Try.prog 59 #[v, v'] w fun e w' => Below w.heap.size w w' ∧
      ((fitsT (eitA s t) (eitN s t) = true ∧ ∃ va vn, e = .returned (.agg #[.int .i64 0, va, vn]) ∧ BuiltT w' w.heap.size va vn (eitA s t) (eitN s t)) ∨
        (fitsT (eitA s t) (eitN s t) = false ∧ e = .panicked [{ v := .iface 109 (.agg #[]), recovered := false }])) := by
  obtain ⟨hn1, hn2, hq, hs0, hs1, -⟩ := ok_parts hok
  obtain ⟨gn1, gn2, gq, gs0, gs1, -⟩ := ok_parts hok'
  have hins := inside_of hok
  have gins := inside_of hok'
  obtain ⟨va, vn, rfl, hacc, hed⟩ := h
  obtain ⟨ua, un, rfl, gacc, ged⟩ := h'
  obtain ⟨ss, sa, se⟩ := s
  obtain ⟨ts, ta, te⟩ := t
  simp only at hn1 hn2 hq hs0 hs1 hins hacc hed gn1 gn2 gq gs0 gs1 gins gacc ged ⊢
  obtain ⟨p, rfl⟩ := Int.eq_ofNat_of_zero_le hs0
  obtain ⟨r, rfl⟩ := Int.eq_ofNat_of_zero_le gs0
  have HED := Lib.hid (fun W (hb : Below w.heap.size w W) => (show Edges W B vn se from hed.below hb hB))
  have GED := Lib.hid (fun W (hb : Below w.heap.size w W) => (show Edges W B un te from ged.below hb hB))
  have HAC := Lib.hid (fun W (hb : Below w.heap.size w W) => (show Bools W B va sa from hacc.below hb hB))
  have GAC := Lib.hid (fun W (hb : Below w.heap.size w W) => (show Bools W B ua ta from gacc.below hb hB))
  have HFS := Lib.hid (show ∀ i, i < se.length → (se.getD i noE).Fits by obtain ⟨_, _, _, _, _, _, _, hc⟩ := hed; exact fun i hi => (hc i hi).2)
  have HFT := Lib.hid (show ∀ i, i < te.length → (te.getD i noE).Fits by obtain ⟨_, _, _, _, _, _, _, hc⟩ := ged; exact fun i hi => (hc i hi).2)
  obtain ⟨aa, ba, oa, ca, rfl, -, haa, -⟩ := hacc
  obtain ⟨rfl, hab⟩ := haa (by omega)
  obtain ⟨ad, bd, od, cd, rfl, -, gaa, -⟩ := gacc
  obtain ⟨rfl, gab⟩ := gaa (by omega)
  obtain ⟨ab, bb, ob, cb, rfl, -, hbb, -⟩ := hed
  obtain ⟨ae, be, oe, ce, rfl, -, gbb, -⟩ := ged
  have HBB2 := Lib.hid hbb
  have GBB2 := Lib.hid gbb
  obtain ⟨n, hnn⟩ : ∃ n, n = sa.length := ⟨_, rfl⟩
  obtain ⟨m, hmm⟩ : ∃ m, m = ta.length := ⟨_, rfl⟩
  obtain ⟨q, hqq⟩ : ∃ q, q = se.length := ⟨_, rfl⟩
  obtain ⟨z, hzz⟩ : ∃ z, z = te.length := ⟨_, rfl⟩
  rw [← hnn] at hn1 hn2 hs1 hins HAC ⊢
  rw [← hmm] at gn1 gn2 gs1 gins GAC ⊢
  rw [← hqq] at hq HED HBB2 ⊢
  rw [← hzz] at gq GED GBB2 ⊢
  have HN := Lib.hid hnn
  have HM := Lib.hid hmm
  have HQ := Lib.hid hqq
  have HZ := Lib.hid hzz
  have HIN := Lib.hid hins
  have HJN := Lib.hid gins
  have HBB := Lib.hid hB
  have HLA := Lib.hid (show (eitA ⟨(p : Nat), sa, se⟩ ⟨(r : Nat), ta, te⟩).length = 1 + n + m by unfold eitA; simp only [List.length_append, List.length_cons]; rw [← hnn, ← hmm]; omega)
  have HNF := Lib.hid (show eitN ⟨(p : Nat), sa, se⟩ ⟨(r : Nat), ta, te⟩ = ([⟨0, (p : Int) + 1, ⟨#[]⟩, ⟨#[]⟩⟩, ⟨0, (r : Int) + (n : Int) + 1, ⟨#[]⟩, ⟨#[]⟩⟩] ++ se.map (shiftE 1)) ++ te.map (shiftE (n + 1)) by unfold eitN; simp only; rw [hnn])
  have HLE := Lib.hid (show (eitN ⟨(p : Nat), sa, se⟩ ⟨(r : Nat), ta, te⟩).length = 2 + q + z by rw [HNF.out]; simp only [List.length_append, List.length_map, List.length_cons, List.length_nil]; rw [← hqq, ← hzz])
  have HEA := Lib.hid (show ([false] ++ sa) ++ ta = eitA ⟨(p : Nat), sa, se⟩ ⟨(r : Nat), ta, te⟩ from rfl)
  obtain ⟨c, hc⟩ : ∃ c : Array Value, c = #[.int .i64 (p : Nat), .slice (some ⟨ba, oa, none⟩) n ca, .slice ab q cb] := ⟨_, rfl⟩
  obtain ⟨d, hd⟩ : ∃ d : Array Value, d = #[.int .i64 (r : Nat), .slice (some ⟨bd, od, none⟩) m cd, .slice ae z ce] := ⟨_, rfl⟩
  have HX1 := Lib.hid (fun W (hb : K22 w c d W) => (show W.cell? ⟨w.heap.size, 0, none⟩ = some (.int .i64 (p : Nat)) ∧ W.cell? ⟨w.heap.size, 1, none⟩ = some (.slice (some ⟨ba, oa, none⟩) n ca) ∧ W.cell? ⟨w.heap.size, 2, none⟩ = some (.slice ab q cb) ∧ w.heap.size < W.heap.size from by have h3 := K22.size hb; rw [hc] at hb; exact ⟨(K22.box1 hb).1, (K22.box1 hb).2.1, (K22.box1 hb).2.2, by omega⟩))
  have HX2 := Lib.hid (fun W (hb : K22 w c d W) => (show W.cell? ⟨w.heap.size + 1, 0, none⟩ = some (.int .i64 (r : Nat)) ∧ W.cell? ⟨w.heap.size + 1, 1, none⟩ = some (.slice (some ⟨bd, od, none⟩) m cd) ∧ W.cell? ⟨w.heap.size + 1, 2, none⟩ = some (.slice ae z ce) ∧ w.heap.size + 1 < W.heap.size from by have h3 := K22.size hb; rw [hd] at hb; exact ⟨(K22.box2 hb).1, (K22.box2 hb).2.1, (K22.box2 hb).2.2, by omega⟩))
  have HK0 := Lib.hid (show K22 w c d (((w.alloc (.cells c 30)).alloc (.cells d 30)).alloc zeroT) from Below.refl _ _)
  clear hok hok' hs0 gs0 haa hab gaa gab hbb gbb hnn hmm hqq hzz hins gins hB
  have hw0 : IntKind.i64.wrap ((1 : Int) + (n : Int)) = ((n + 1 : Nat) : Int) := by rw [IntKind.wrap_i64]; omega
  go_enter Try.func59, Try.ntmps59
  go_upto_region 1 with fail
  rw [← hc, ← hd]
  generalize hW : ((w.alloc (.cells c 30)).alloc (.cells d 30)).alloc (.cells #[Value.int .i64 0, .slice none 0 0, .slice none 0 0] 30) = W at HK0 ⊢
  clear hW hc hd
  obtain ⟨x0, x1, x2, l0⟩ := HX1.out _ HK0.out
  go_wp2_with fail
  refine (newMachine W).mono ?_
  rintro e w1 ⟨rfl, hb1, hbel1⟩
  obtain ⟨Z, hZ⟩ : ∃ Z, Z = W.heap.size := ⟨_, rfl⟩
  rw [← hZ] at hb1 ⊢
  have HZC := Lib.hid (show w.heap.size + 3 ≤ Z by rw [hZ]; exact K22.size HK0.out)
  have HK1 := Lib.hid (K22.step HK0.out hbel1)
  have HG1 := Lib.hid (hb1.alloc (.cells #[Value.bool false] 4))
  have HW1 := Lib.hid (K22.step HK1.out ((Below.refl _ _).alloc (Nat.le_refl _) (.cells #[Value.bool false] 4)))
  have HNW := Lib.hid (news_one w1 false)
  clear hb1 hbel1 hZ HK0 x0 x1 x2 l0 hw0
  go_wp2_with fail
  refine (addStates Z Z 0 _ _ [] [] [false] w1.heap.size 0 1 1 _ HG1.out rfl (by simp) (by omega) HNW.out).mono ?_
  rintro e w2 ⟨hb2, ⟨-, rfl, v2, hg2⟩ | ⟨hf, -⟩⟩
  case inr => simp at hf
  have HG2 := Lib.hid (show BldG w2 Z Z 0 v2 (.slice none 0 0) [false] [] from hg2)
  have HK2 := Lib.hid (K22.low HW1.out hb2 HZC.out)
  clear hb2 hg2 HG1 HW1 HNW HK1
  obtain ⟨x0, x1, x2, l0⟩ := HX1.out _ HK2.out
  have HNW := Lib.hid (news_bools (HAC.out _ (K22.base HK2.out)) (by rw [← HN.out]; omega))
  go_wp2_with fail
  clear x0 x1 x2 l0
  refine (addStates Z Z 0 _ _ [false] [] sa ba oa n ca _ HG2.out HN.out.symm (by simp) (by omega) HNW.out).mono ?_
  rintro e w3 ⟨hb3, ⟨hf, rfl, v3, hg3⟩ | ⟨hf, rfl⟩⟩
  case inr =>
    have HB3 := Lib.hid (K22.low HK2.out hb3 HZC.out)
    have HF := Lib.hid (fits_statesF (N := eitN ⟨(p : Nat), sa, se⟩ ⟨(r : Nat), ta, te⟩) (show 40 < (eitA ⟨(p : Nat), sa, se⟩ ⟨(r : Nat), ta, te⟩).length by rw [HLA.out]; simp at hf; omega))
    clear hb3 hf
    go_wp2_with fail
    exact ⟨rfl, K22.base HB3.out, .inr ⟨HF.out, rfl⟩⟩
  have HS := Lib.hid (show n + 1 ≤ 40 by simp at hf; omega)
  have HK3 := Lib.hid (K22.low HK2.out hb3 HZC.out)
  have HG3 := Lib.hid hg3
  clear hb3 hf hg3 HG2 HK2 HNW
  obtain ⟨y0, y1, y2, l1⟩ := HX2.out _ HK3.out
  have HNW := Lib.hid (news_bools (GAC.out _ (K22.base HK3.out)) (by rw [← HM.out]; omega))
  go_wp2_with fail
  clear y0 y1 y2 l1
  refine (addStates Z Z 0 _ _ _ [] ta bd od m cd _ HG3.out HM.out.symm (by have h1 := HS.out; rw [List.length_append, ← HN.out]; simp; omega) (by omega) HNW.out).mono ?_
  rintro e w4 ⟨hb4, ⟨hf, rfl, v4, hg4⟩ | ⟨hf, rfl⟩⟩
  case inr =>
    have HB4 := Lib.hid (K22.low HK3.out hb4 HZC.out)
    have HF := Lib.hid (fits_statesF (N := eitN ⟨(p : Nat), sa, se⟩ ⟨(r : Nat), ta, te⟩) (show 40 < (eitA ⟨(p : Nat), sa, se⟩ ⟨(r : Nat), ta, te⟩).length by rw [HLA.out]; rw [List.length_append, ← HN.out] at hf; simp at hf; omega))
    clear hb4 hf
    go_wp2_with fail
    exact ⟨rfl, K22.base HB4.out, .inr ⟨HF.out, rfl⟩⟩
  have HS4 := Lib.hid (show (eitA ⟨(p : Nat), sa, se⟩ ⟨(r : Nat), ta, te⟩).length ≤ 40 by rw [HLA.out]; rw [List.length_append, ← HN.out] at hf; simp at hf; omega)
  have HK4 := Lib.hid (K22.low HK3.out hb4 HZC.out)
  have HG4 := Lib.hid (show BldG w4 Z Z 0 v4 (.slice none 0 0) (eitA ⟨(p : Nat), sa, se⟩ ⟨(r : Nat), ta, te⟩) [] by rw [← HEA.out]; exact hg4)
  clear hb4 hf hg4 HG3 HK3 HNW HS
  obtain ⟨x0, x1, x2, l0⟩ := HX1.out _ HK4.out
  obtain ⟨y0, y1, y2, l1⟩ := HX2.out _ HK4.out
  have hw1 : IntKind.i64.wrap ((1 : Int) + (p : Int)) = (p : Int) + 1 := by rw [IntKind.wrap_i64]; omega
  have hw2 : IntKind.i64.wrap (((n + 1 : Nat) : Int) + (r : Int)) = (r : Int) + n + 1 := by rw [IntKind.wrap_i64]; omega
  have hw3 : IntKind.i64.wrap (((n : Int) + 1) + (r : Int)) = (r : Int) + n + 1 := by rw [IntKind.wrap_i64]; omega
  have HE1 := Lib.hid (edges_two w4 ⟨0, (p : Int) + 1, ⟨#[]⟩, ⟨#[]⟩⟩ ⟨0, (r : Int) + (n : Int) + 1, ⟨#[]⟩, ⟨#[]⟩⟩ ⟨Nat.zero_le _, Nat.zero_le _⟩ ⟨Nat.zero_le _, Nat.zero_le _⟩)
  have HG5 := Lib.hid (HG4.out.alloc (boxE2 ⟨0, (p : Int) + 1, ⟨#[]⟩, ⟨#[]⟩⟩ ⟨0, (r : Int) + (n : Int) + 1, ⟨#[]⟩, ⟨#[]⟩⟩))
  have HK5 := Lib.hid (K22.step HK4.out ((Below.refl _ _).alloc (Nat.le_refl _) (boxE2 ⟨0, (p : Int) + 1, ⟨#[]⟩, ⟨#[]⟩⟩ ⟨0, (r : Int) + (n : Int) + 1, ⟨#[]⟩, ⟨#[]⟩⟩)))
  have HIE := Lib.hid (show Inside 1000 [(⟨0, (p : Int) + 1, ⟨#[]⟩, ⟨#[]⟩⟩ : E), ⟨0, (r : Int) + (n : Int) + 1, ⟨#[]⟩, ⟨#[]⟩⟩] from fun i hi => by
    have hi2 : i < 2 := hi
    match i, hi2 with
    | 0, _ => exact ⟨by show (0 : Int) ≤ 0; omega, by show (0 : Int) < _; omega, by show (0 : Int) ≤ (p : Int) + 1; omega, by show (p : Int) + 1 < _; omega⟩
    | 1, _ => exact ⟨by show (0 : Int) ≤ 0; omega, by show (0 : Int) < _; omega, by show (0 : Int) ≤ (r : Int) + (n : Int) + 1; omega, by show (r : Int) + (n : Int) + 1 < _; omega⟩)
  have HNE := Lib.hid (show 0 < [(⟨0, (p : Int) + 1, ⟨#[]⟩, ⟨#[]⟩⟩ : E), ⟨0, (r : Int) + (n : Int) + 1, ⟨#[]⟩, ⟨#[]⟩⟩].length → ∀ b o l c, Value.slice (some ⟨w4.heap.size, 0, none⟩) 2 2 = .slice (some ⟨b, o, none⟩) l c → b ≠ Z ∧ (Value.slice none 0 0).ownBlock ≠ some b from fun _ b o l c e => by
    injection e with e1 _ _
    injection e1 with e2
    injection e2 with e3
    exact ⟨by have := HG4.out.lt; omega, fun e => by cases e⟩)
  go_wp2_with fail
  clear x0 x1 x2 l0 y0 y1 y2 l1 hw1 hw2 hw3
  refine (GrowE.addEdges [⟨0, (p : Int) + 1, ⟨#[]⟩, ⟨#[]⟩⟩, ⟨0, (r : Int) + (n : Int) + 1, ⟨#[]⟩, ⟨#[]⟩⟩] _ 0 Z Z 1000 0 _ _ _ _ _ HE1.out HG5.out HIE.out (by omega) (by simp) (by simp) (by omega) HNE.out).mono ?_
  rintro e w5 ⟨hb5, ⟨-, rfl, v5, hg5⟩ | ⟨hf, -⟩⟩
  case inr => simp at hf
  have HK6 := Lib.hid (K22.low HK5.out hb5 HZC.out)
  have HG6 := Lib.hid (show BldG w5 Z Z 0 v4 v5 (eitA ⟨(p : Nat), sa, se⟩ ⟨(r : Nat), ta, te⟩) [⟨0, (p : Int) + 1, ⟨#[]⟩, ⟨#[]⟩⟩, ⟨0, (r : Int) + (n : Int) + 1, ⟨#[]⟩, ⟨#[]⟩⟩] by rw [shift_two, List.nil_append] at hg5; exact hg5)
  clear hb5 hg5 HG4 HK4 HG5 HK5 HE1 HIE HNE
  obtain ⟨x0, x1, x2, l0⟩ := HX1.out _ HK6.out
  have HE6 := Lib.hid ((HED.out _ (K22.base HK6.out)).mono (show B ≤ w5.heap.size by have := HBB.out; have := K22.size HK6.out; omega))
  have HNE6 := Lib.hid (show 0 < se.length → ∀ b o l c, Value.slice ab q cb = .slice (some ⟨b, o, none⟩) l c → b ≠ Z ∧ v5.ownBlock ≠ some b from fun h0 b o l c e => by
    obtain ⟨rfl, hlt⟩ := HBB2.out (by rw [HQ.out]; exact h0)
    injection e with e1 _ _
    injection e1 with e2
    injection e2 with e3
    have h1 := HBB.out
    have h2 := HZC.out
    exact ⟨by omega, not_own HG6.out.edg (by omega)⟩)
  go_wp2_with fail
  clear x0 x1 x2 l0
  refine (GrowE.addEdges se _ 1 Z Z n 0 _ _ _ _ _ HE6.out HG6.out HIN.out (by omega) (by rw [← HQ.out]; omega) (by simp) (by omega) HNE6.out).mono ?_
  rintro e w6 ⟨hb6, ⟨hf, rfl, v6, hg6⟩ | ⟨hf, rfl⟩⟩
  case inr =>
    have HB6 := Lib.hid (K22.low HK6.out hb6 HZC.out)
    have HF := Lib.hid (fits_edgesF (A := eitA ⟨(p : Nat), sa, se⟩ ⟨(r : Nat), ta, te⟩) (show 200 < (eitN ⟨(p : Nat), sa, se⟩ ⟨(r : Nat), ta, te⟩).length by rw [HLE.out]; rw [← HQ.out] at hf; simp at hf; omega))
    clear hb6 hf
    go_wp2_with fail
    exact ⟨rfl, K22.base HB6.out, .inr ⟨HF.out, rfl⟩⟩
  have HK7 := Lib.hid (K22.low HK6.out hb6 HZC.out)
  have HG7 := Lib.hid hg6
  have HS7 := Lib.hid (show 2 + q ≤ 200 by rw [← HQ.out] at hf; simp at hf; omega)
  clear hb6 hf hg6 HG6 HK6 HE6 HNE6
  obtain ⟨y0, y1, y2, l1⟩ := HX2.out _ HK7.out
  have HE7 := Lib.hid ((GED.out _ (K22.base HK7.out)).mono (show B ≤ w6.heap.size by have := HBB.out; have := K22.size HK7.out; omega))
  have HNE7 := Lib.hid (show 0 < te.length → ∀ b o l c, Value.slice ae z ce = .slice (some ⟨b, o, none⟩) l c → b ≠ Z ∧ v6.ownBlock ≠ some b from fun h0 b o l c e => by
    obtain ⟨rfl, hlt⟩ := GBB2.out (by rw [HZ.out]; exact h0)
    injection e with e1 _ _
    injection e1 with e2
    injection e2 with e3
    have h1 := HBB.out
    have h2 := HZC.out
    exact ⟨by omega, not_own HG7.out.edg (by omega)⟩)
  go_wp2_with fail
  clear y0 y1 y2 l1
  refine (GrowE.addEdges te _ (n + 1) Z Z m 0 _ _ _ _ _ HE7.out HG7.out HJN.out (by omega) (by rw [← HZ.out]; omega) (by have h1 := HS7.out; simp only [List.length_append, List.length_map, List.length_cons, List.length_nil]; rw [← HQ.out]; omega) (by omega) HNE7.out).mono ?_
  rintro e w7 ⟨hb7, ⟨hf, rfl, v7, hg7⟩ | ⟨hf, rfl⟩⟩
  case inr =>
    have HB7 := Lib.hid (K22.low HK7.out hb7 HZC.out)
    have HF := Lib.hid (fits_edgesF (A := eitA ⟨(p : Nat), sa, se⟩ ⟨(r : Nat), ta, te⟩) (show 200 < (eitN ⟨(p : Nat), sa, se⟩ ⟨(r : Nat), ta, te⟩).length by rw [HLE.out]; simp only [List.length_append, List.length_map, List.length_cons, List.length_nil] at hf; rw [← HQ.out, ← HZ.out] at hf; omega))
    clear hb7 hf
    go_wp2_with fail
    exact ⟨rfl, K22.base HB7.out, .inr ⟨HF.out, rfl⟩⟩
  have HK8 := Lib.hid (K22.low HK7.out hb7 HZC.out)
  have HLN := Lib.hid (show (eitN ⟨(p : Nat), sa, se⟩ ⟨(r : Nat), ta, te⟩).length ≤ 200 by rw [HLE.out]; simp only [List.length_append, List.length_map, List.length_cons, List.length_nil] at hf; rw [← HQ.out, ← HZ.out] at hf; omega)
  have HG8 := Lib.hid (show BldG w7 Z Z 0 v4 v7 (eitA ⟨(p : Nat), sa, se⟩ ⟨(r : Nat), ta, te⟩) (eitN ⟨(p : Nat), sa, se⟩ ⟨(r : Nat), ta, te⟩) by rw [HNF.out]; exact hg7)
  have HF := Lib.hid (fits_yes HS4.out HLN.out)
  clear hb7 hf hg7 HG7 HK7 HE7 HNE7
  obtain ⟨a3, n3, c3, rfl, -⟩ := HG8.out.acc.shape'
  obtain ⟨a7, n7, c7, rfl, -⟩ := HG8.out.edg.shape'
  obtain ⟨r0, r1, r2, t0, t1, t2⟩ := K22.cells HK8.out
  have b0 := (cell_of_block HG8.out.at_ 0).1
  have b1 := (cell_of_block HG8.out.at_ 1).1
  have b2 := (cell_of_block HG8.out.at_ 2).1
  simp at b0 b1 b2
  have hl := K22.size HK8.out
  have b6 := HG8.out.lt
  go_wp2
  obtain ⟨g0, g1, g2⟩ := put3_cells (a := .int .i64 0) (b := .slice a3 n3 c3) (c := .slice a7 n7 c7) (K22.res HK8.out)
  refine bodyPost_ret (v := .agg #[.int .i64 0, .slice a3 n3 c3, .slice a7 n7 c7]) (by simp [results, Try.results59, go_sem, g0, g1, g2]) rfl ⟨put3_below (K22.base HK8.out) (by omega), .inl ⟨HF.out, _, _, rfl, BuiltT.mono (BuiltT.put3 (B := Z) ⟨HG8.out.acc, HG8.out.edg, eitN_fits HFS.out HFT.out, by have := HLN.out; omega⟩ (by have := HZC.out; omega)) (by have := HZC.out; omega)⟩⟩
end Go.Proofs.Ytjoiaenkmmmmpaa.EitImpl
