
/- What the model's EitherTransducer answers for two valid transducers.
   Conditions: the transducers are read as XEdg's text says, and are valid. -/
import Derived.Test.YtjoiaenkmmmmpaaTwoTr
import Derived.Deep.RegionHeld3
import Derived.Deep.DrawnRows
import Derived.Deep.RegionLaw
import Derived.Deep.DeepCutAuto
import Derived.Deep.CutBlock
namespace Go.Proofs.Ytjoiaenkmmmmpaa.EitSpec
set_option linter.unusedVariables false
set_option linter.unusedSimpArgs false
set_option maxRecDepth 100000
open Go.RowKit Mem Copy Rel Heap MarkRow Edg EdgCopy EdgEq TrHeap TrLawKit TrValid TrImplValid TurnImpl TurnSpec Push TrReach TrReached TrimKit AddSpec ToldTr RepSpec TwoTr

/-- What is put together. -/
def eitA (s t : T) : List Bool := false :: (s.accept ++ t.accept)
def eitN (s t : T) : List E := ([⟨0, s.start + 1, ⟨#[]⟩, ⟨#[]⟩⟩, ⟨0, t.start + (s.accept.length : Int) + 1, ⟨#[]⟩, ⟨#[]⟩⟩] ++ s.edges.map (shiftE 1)) ++ t.edges.map (shiftE (s.accept.length + 1))

theorem fits_shift {es : List E} (a : Nat) (h : ∀ i, i < es.length → (es.getD i noE).Fits) : ∀ x ∈ es.map (shiftE a), x.Fits := by
  intro x hm
  obtain ⟨e, he, rfl⟩ := List.mem_map.1 hm
  obtain ⟨j, hj, rfl⟩ := List.getElem_of_mem he
  have := h j hj
  rw [show es.getD j noE = es[j] by simp [List.getD, hj]] at this
  exact this
theorem fits_all {es : List E} (h : ∀ x ∈ es, x.Fits) : ∀ i, i < es.length → (es.getD i noE).Fits := by
  intro i hi
  have e : es.getD i noE = es[i] := by simp [List.getD, hi]
  rw [e]; exact h _ (List.getElem_mem hi)
theorem eitN_fits {s t : T} (h1 : ∀ i, i < s.edges.length → (s.edges.getD i noE).Fits) (h2 : ∀ i, i < t.edges.length → (t.edges.getD i noE).Fits) : ∀ i, i < (eitN s t).length → ((eitN s t).getD i noE).Fits := by
  have h0 : (⟨#[]⟩ : ByteArray).size ≤ maxLen := Nat.zero_le _
  refine fits_all fun x hm => ?_
  unfold eitN at hm
  rcases List.mem_append.1 hm with hm | hm
  · rcases List.mem_append.1 hm with hm | hm
    · simp only [List.mem_cons, List.not_mem_nil, or_false] at hm
      rcases hm with rfl | rfl <;> exact ⟨h0, h0⟩
    · exact fits_shift 1 h1 x hm
  · exact fits_shift _ h2 x hm
theorem inside_of {t : T} (hok : okT t = true) : Inside t.accept.length t.edges := by
  obtain ⟨hn1, hn2, hq, hs0, hs1, hall⟩ := ok_parts hok
  intro k hk
  have h1 := edge_ok hall k hk
  unfold edgeOk at h1
  simp only [Bool.and_eq_true] at h1
  obtain ⟨⟨⟨h2, h3⟩, -⟩, -⟩ := h1
  unfold Columns.inB at h2 h3
  have h4 := of_decide_eq_true h2
  have h5 := of_decide_eq_true h3
  exact ⟨h4.1, by omega, h5.1, by omega⟩

abbrev zeroT : Obj := .cells #[Value.int .i64 0, .slice none 0 0, .slice none 0 0] 30

theorem zero_keep {w w' : World} {Z B : Nat} {v : Value} {xs : List Value} {cs : Array Value} (hz : w.heap[Z]? = some (.cells cs 30 (0, 0))) (hl : Lst w B 4 v xs) (hg : w.grownBy w' v.ownBlock) : w'.heap[Z]? = some (.cells cs 30 (0, 0)) := by
  rw [hg.block Z (lt_of_block hz) (fun e => block_apart hl hz (by decide) e.symm)]; exact hz

set_option maxHeartbeats 8000000 in
theorem eitSpec (v v' : Value) (s t : T) (w : World) (B : Nat) (h : TrAt w B v s) (h' : TrAt w B v' t) (hB : B ≤ w.heap.size) (hok : okT s = true) (hok' : okT t = true) :
    Calls Try.prog 25 #[v, v'] w fun e w' => Below w.heap.size w w' ∧
      ((fitsT (eitA s t) (eitN s t) = true ∧ ∃ va vn, e = .returned (.tuple #[.agg #[.int .i64 0, va, vn], .int .i64 0]) ∧ BuiltT w' w.heap.size va vn (eitA s t) (eitN s t)) ∨
        (fitsT (eitA s t) (eitN s t) = false ∧ e = .returned (.tuple #[.agg #[.int .i64 0, .slice none 0 0, .slice none 0 0], .int .i64 3]))) := by
  obtain ⟨hn1, hn2, hq, hs0, hs1, -⟩ := ok_parts hok
  obtain ⟨gn1, gn2, gq, gs0, gs1, -⟩ := ok_parts hok'
  have hins := inside_of hok
  have gins := inside_of hok'
  obtain ⟨va, vn, rfl, hacc, hed⟩ := h
  obtain ⟨ua, un, rfl, gacc, ged⟩ := h'
  obtain ⟨ss, sa, se⟩ := s
  obtain ⟨ts, ta, te⟩ := t
  simp only at hn1 hn2 hq hs0 hs1 hins hacc hed gn1 gn2 gq gs0 gs1 gins gacc ged ⊢
  obtain ⟨p, rfl⟩ := Int.eq_ofNat_of_zero_le hs0
  obtain ⟨r, rfl⟩ := Int.eq_ofNat_of_zero_le gs0
  have HFS := Lib.hid (show ∀ i, i < se.length → (se.getD i noE).Fits by obtain ⟨_, _, _, _, _, _, _, hc⟩ := hed; exact fun i hi => (hc i hi).2)
  have HFT := Lib.hid (show ∀ i, i < te.length → (te.getD i noE).Fits by obtain ⟨_, _, _, _, _, _, _, hc⟩ := ged; exact fun i hi => (hc i hi).2)
  obtain ⟨aa, ba, oa, ca, rfl, hma, haa, hca⟩ := hacc
  obtain ⟨rfl, hab⟩ := haa (by omega)
  have hacc : Bools w B (.slice (some ⟨ba, oa, none⟩) sa.length ca) sa := ⟨_, ba, oa, ca, rfl, hma, haa, hca⟩
  obtain ⟨ad, bd, od, cd, rfl, gma, gaa, gca⟩ := gacc
  obtain ⟨rfl, gab⟩ := gaa (by omega)
  have gacc : Bools w B (.slice (some ⟨bd, od, none⟩) ta.length cd) ta := ⟨_, bd, od, cd, rfl, gma, gaa, gca⟩
  obtain ⟨n, hnn⟩ : ∃ n, n = sa.length := ⟨_, rfl⟩
  obtain ⟨m, hmm⟩ : ∃ m, m = ta.length := ⟨_, rfl⟩
  rw [← hnn] at hn1 hn2 hs1 hins hacc ⊢
  rw [← hmm] at gn1 gn2 gs1 gins gacc ⊢
  have HN := Lib.hid hnn
  have HM := Lib.hid hmm
  obtain ⟨c, hc⟩ : ∃ c : Array Value, c = #[.int .i64 (p : Nat), .slice (some ⟨ba, oa, none⟩) n ca, vn] := ⟨_, rfl⟩
  obtain ⟨d, hd⟩ : ∃ d : Array Value, d = #[.int .i64 (r : Nat), .slice (some ⟨bd, od, none⟩) m cd, un] := ⟨_, rfl⟩
  have HX1 := Lib.hid (fun W (hb : K22 w c d W) => (show W.cell? ⟨w.heap.size, 0, none⟩ = some (.int .i64 (p : Nat)) ∧ W.cell? ⟨w.heap.size, 1, none⟩ = some (.slice (some ⟨ba, oa, none⟩) n ca) ∧ W.cell? ⟨w.heap.size, 2, none⟩ = some vn from by rw [hc] at hb; exact K22.box1 hb))
  have HX2 := Lib.hid (fun W (hb : K22 w c d W) => (show W.cell? ⟨w.heap.size + 1, 0, none⟩ = some (.int .i64 (r : Nat)) ∧ W.cell? ⟨w.heap.size + 1, 1, none⟩ = some (.slice (some ⟨bd, od, none⟩) m cd) ∧ W.cell? ⟨w.heap.size + 1, 2, none⟩ = some un from by rw [hd] at hb; exact K22.box2 hb))
  have HP1 := Lib.hid (fun W (hb : K22 w c d W) => (show TrPtr W B w.heap.size ⟨(p : Nat), sa, se⟩ (.slice (some ⟨ba, oa, none⟩) n ca) vn from
    ⟨⟨(HX1.out W hb).1, (HX1.out W hb).2.1, (HX1.out W hb).2.2, by have := K22.size hb; omega⟩, hacc.below (K22.base hb) hB, hed.below (K22.base hb) hB⟩))
  have HP2 := Lib.hid (fun W (hb : K22 w c d W) => (show TrPtr W B (w.heap.size + 1) ⟨(r : Nat), ta, te⟩ (.slice (some ⟨bd, od, none⟩) m cd) un from
    ⟨⟨(HX2.out W hb).1, (HX2.out W hb).2.1, (HX2.out W hb).2.2, by have := K22.size hb; omega⟩, gacc.below (K22.base hb) hB, ged.below (K22.base hb) hB⟩))
  have hk0 : K22 w c d (((w.alloc (.cells c 30)).alloc (.cells d 30)).alloc zeroT) := Below.refl _ _
  have HV1 := Lib.hid (specOk ⟨(p : Nat), sa, se⟩ _ vn w.heap.size _ B (HP1.out _ hk0))
  have HV2 := Lib.hid (specOk ⟨(r : Nat), ta, te⟩ _ un (w.heap.size + 1) _ B (HP2.out _ hk0))
  rw [hok] at HV1
  rw [hok'] at HV2
  have HNW1 := Lib.hid (fun W (hb : K22 w c d W) => news_bools (hacc.below (K22.base hb) hB) (by omega))
  have HNW2 := Lib.hid (fun W (hb : K22 w c d W) => news_bools (gacc.below (K22.base hb) hB) (by omega))
  have HIN := Lib.hid hins
  have HJN := Lib.hid gins
  have HBB := Lib.hid hB
  have HK0 := Lib.hid hk0
  clear hok hok' hs0 gs0 hma haa hca hacc hed hins gma gaa gca gacc ged gins hnn hmm hk0 hab gab hB
  go_enter Try.func25, Try.ntmps25
  go_wp2_with fail
  rw [← hc, ← hd]
  generalize hW : ((w.alloc (.cells c 30)).alloc (.cells d 30)).alloc (.cells #[Value.int .i64 0, .slice none 0 0, .slice none 0 0] 30) = W at HK0 HV1 HV2 ⊢
  clear hW hc hd
  refine HV1.out.mono ?_
  rintro e w1 ⟨rfl, rfl⟩
  go_wp2_with fail
  refine HV2.out.mono ?_
  rintro e w1 ⟨rfl, rfl⟩
  clear HV1 HV2
  obtain ⟨x0, x1, x2⟩ := HX1.out _ HK0.out
  obtain ⟨y0, y1, y2⟩ := HX2.out _ HK0.out
  have l0 : w.heap.size < W.heap.size := by have := K22.size HK0.out; omega
  have l1 : w.heap.size + 1 < W.heap.size := by have := K22.size HK0.out; omega
  go_upto_region 4 with fail
  have HKD := Lib.hid (K22.step HK0.out ((Below.refl _ _).drew))
  have HC3 := Lib.hid (show ∀ V, K22 w c d V → V.cell? ⟨w.heap.size, 1, none⟩ = some (.slice (some ⟨ba, oa, none⟩) n ca) ∧ V.cell? ⟨w.heap.size + 1, 1, none⟩ = some (.slice (some ⟨bd, od, none⟩) m cd) from fun V hV => ⟨(HX1.out V hV).2.1, (HX2.out V hV).2.1⟩)
  have HKa := Lib.hid (show K22 w c d (((W.alloc zeroT).alloc (.cells #[Value.bool false] 4)).drew) from K22.step HK0.out ((((Below.refl _ _).alloc (Nat.le_refl _) _).alloc (by rw [size_alloc']; omega) _).drew))
  have HKb := Lib.hid (show K22 w c d (((W.alloc (.cells #[Value.bool false] 4)).alloc zeroT).drew) from K22.step HK0.out ((((Below.refl _ _).alloc (Nat.le_refl _) _).alloc (by rw [size_alloc']; omega) _).drew))
  have HKc := Lib.hid (show K22 w c d ((W.alloc (.cells #[Value.bool false] 4)).drew) from K22.step HK0.out (((Below.refl _ _).alloc (Nat.le_refl _) _).drew))
  have HLc := Lib.hid (show Lst ((W.alloc (.cells #[Value.bool false] 4)).drew) (w.heap.size + 3) 4 (.slice (some ⟨W.heap.size, 0, none⟩) 1 1) [.bool false] from Lst.one W (w.heap.size + 3) 4 (.bool false) (K22.size HK0.out))
  have HLb := Lib.hid (show Lst (((W.alloc (.cells #[Value.bool false] 4)).alloc zeroT).drew) (w.heap.size + 3) 4 (.slice (some ⟨W.heap.size, 0, none⟩) 1 1) [.bool false] from (Lst.one W (w.heap.size + 3) 4 (.bool false) (K22.size HK0.out)).alloc _)
  have HLa := Lib.hid (show Lst (((W.alloc zeroT).alloc (.cells #[Value.bool false] 4)).drew) (w.heap.size + 3) 4 (.slice (some ⟨W.heap.size + 1, 0, none⟩) 1 1) [.bool false] from by
    have := Lst.one (W.alloc zeroT) (w.heap.size + 3) 4 (.bool false) (by rw [size_alloc']; have := K22.size HK0.out; omega)
    rw [size_alloc'] at this; exact this)
  have HZa := Lib.hid (show (((W.alloc zeroT).alloc (.cells #[Value.bool false] 4)).drew).heap[W.heap.size]? = some (.cells #[Value.int .i64 0, .slice none 0 0, .slice none 0 0] 30 (0, 0)) from (Below.heap_alloc _ _ _ (by rw [size_alloc']; omega)).trans (heap_alloc_new W zeroT))
  have HZb := Lib.hid (show (((W.alloc (.cells #[Value.bool false] 4)).alloc zeroT).drew).heap[W.heap.size + 1]? = some (.cells #[Value.int .i64 0, .slice none 0 0, .slice none 0 0] 30 (0, 0)) from by
    have := heap_alloc_new (W.alloc (.cells #[Value.bool false] 4)) zeroT
    rw [size_alloc'] at this; exact this)
  have HON1 := Lib.hid (show ∀ u ∈ sa.map Value.bool, u.oneCell' = true from fun u hu => by obtain ⟨b, -, rfl⟩ := List.mem_map.1 hu; rfl)
  have HON2 := Lib.hid (show ∀ u ∈ ta.map Value.bool, u.oneCell' = true from fun u hu => by obtain ⟨b, -, rfl⟩ := List.mem_map.1 hu; rfl)
  have HLE1 := Lib.hid (show (sa.map Value.bool).length = n by rw [List.length_map]; exact HN.out.symm)
  have HLE2 := Lib.hid (show (ta.map Value.bool).length = m by rw [List.length_map]; exact HM.out.symm)
  have HLN1 := Lib.hid (show ([Value.bool false] : List Value).length + (sa.map Value.bool).length ≤ 100000000 by rw [HLE1.out]; simp; omega)
  have HLN2 := Lib.hid (show ([Value.bool false] ++ sa.map Value.bool : List Value).length + (ta.map Value.bool).length ≤ 100000000 by rw [HLE2.out, List.length_append, HLE1.out]; simp; omega)
  have HEQ := Lib.hid (show ([Value.bool false] ++ sa.map Value.bool) ++ ta.map Value.bool = (eitA ⟨(p : Nat), sa, se⟩ ⟨(r : Nat), ta, te⟩).map Value.bool from by unfold eitA; simp)
  have HN0 := Lib.hid (show 0 < n by omega)
  have HM0 := Lib.hid (show 0 < m by omega)
  go_cut [7] (fun v7 wx => ∃ (Z : Nat) (a5 : Option Addr) (n5 c5 : Nat), v7 = .pointer (some ⟨Z, 0, none⟩) ∧ BldT wx (w.heap.size + 3) Z 0 (.slice a5 n5 c5) (.slice none 0 0) (eitA ⟨(p : Nat), sa, se⟩ ⟨(r : Nat), ta, te⟩) [] ∧ K22 w c d wx)
  case first =>
    go_region_held3 (fun w' => w'.cell? ⟨w.heap.size, 1, none⟩ = some (.slice (some ⟨ba, oa, none⟩) n ca) ∧ w'.cell? ⟨w.heap.size + 1, 1, none⟩ = some (.slice (some ⟨bd, od, none⟩) m cd))
      (first | go_keep | exact HC3.out _ HKD.out | exact HC3.out _ (put3_below HK6.out (by rw [size_alloc']; have h1 := K22.size HK0.out; omega)) | exact HC3.out _ (put3_below HK6.out (by rw [size_alloc']; have h1 := K22.size HK5.out; omega)))
      (first
        | (refine step_pushs rfl _ _ 22 (by rfl) 4 (.bool false) 1 Try.underlying22 info4 (by decide) (by decide) (w.heap.size + 3) _ ([.bool false] ++ sa.map Value.bool) (by first | exact HL5.out | exact HL5.out.alloc _) (by first | exact K22.size HK5.out | exact K22.size (K22.step HK5.out ((Below.refl _ _).alloc (Nat.le_refl _) zeroT))) (ta.map Value.bool) HON2.out HLN2.out (by rfl) ⟨bd, od, none⟩ m cd (by rfl) HLE2.out HM0.out (by first | exact HNW2.out _ HK5.out | exact HNW2.out _ (K22.step HK5.out ((Below.refl _ _).alloc (Nat.le_refl _) zeroT))) ?_; intro v6 w6 hl6 hg6; rw [HEQ.out] at hl6; obtain ⟨a6, n6, c6, rfl, HN6⟩ := hl6.shape'; have HL6 := Lib.hid hl6; (first | (have HK6 := Lib.hid (K22.grown HK5.out HL5.out hg6); have o6 := zero_keep HZ5.out HL5.out hg6) | (have HK6 := Lib.hid (K22.grown HK5.out HL5.out hg6)) | (have HK6 := Lib.hid (K22.grown (K22.step HK5.out ((Below.refl _ _).alloc (Nat.le_refl _) zeroT)) (HL5.out.alloc _) hg6); have o6 := zero_keep (heap_alloc_new w5 zeroT) (HL5.out.alloc _) hg6)); obtain ⟨q61, q62⟩ := HC3.out _ HK6.out; have l61 : w.heap.size < w6.heap.size := (by have := K22.size HK6.out; omega); have l62 : w.heap.size + 1 < w6.heap.size := (by have := K22.size HK6.out; omega); (try (have z60 := (cell_of_block o6 0).1; have z61 := (cell_of_block o6 1).1; have z62 := (cell_of_block o6 2).1; have z63 := (cell_of_block o6 0).2; have z64 := (cell_of_block o6 1).2; have z65 := (cell_of_block o6 2).2; have z66 := lt_of_block o6; simp at z60 z61 z62; have HO6 := Lib.hid o6; clear o6)); clear hl6 hg6)
        | (refine step_pushs rfl _ _ 22 (by rfl) 4 (.bool false) 1 Try.underlying22 info4 (by decide) (by decide) (w.heap.size + 3) _ [.bool false] (by first | exact HLa.out | exact HLb.out | exact HLc.out) (by first | exact K22.size HKa.out | exact K22.size HKb.out | exact K22.size HKc.out) (sa.map Value.bool) HON1.out HLN1.out (by rfl) ⟨ba, oa, none⟩ n ca (by rfl) HLE1.out HN0.out (by first | exact HNW1.out _ HKa.out | exact HNW1.out _ HKb.out | exact HNW1.out _ HKc.out) ?_; intro v5 w5 hl5 hg5; obtain ⟨a5, n5, c5, rfl, HN5⟩ := hl5.shape'; have HL5 := Lib.hid hl5; (first | (have HK5 := Lib.hid (K22.grown HKa.out HLa.out hg5); have HZ5 := Lib.hid (zero_keep HZa.out HLa.out hg5)) | (have HK5 := Lib.hid (K22.grown HKb.out HLb.out hg5); have HZ5 := Lib.hid (zero_keep HZb.out HLb.out hg5)) | (have HK5 := Lib.hid (K22.grown HKc.out HLc.out hg5))); obtain ⟨q51, q52⟩ := HC3.out _ HK5.out; have l51 : w.heap.size < w5.heap.size := (by have := K22.size HK5.out; omega); have l52 : w.heap.size + 1 < w5.heap.size := (by have := K22.size HK5.out; omega); clear hl5 hg5))
    all_goals
      go_wp2_with fail
      go_meet
      first
        | exact ⟨_, _, _, _, rfl, BldT.new HL6.out (K22.size HK6.out), K22.step HK6.out ((Below.refl _ _).alloc (Nat.le_refl _) _)⟩
        | exact ⟨_, _, _, _, rfl, BldT.boxed HO6.out (by have h1 := K22.size HK0.out; omega) HL6.out, put3_below HK6.out (by rw [size_alloc']; have h1 := K22.size HK0.out; omega)⟩
        | exact ⟨_, _, _, _, rfl, BldT.boxed HO6.out (by have h1 := K22.size HK5.out; omega) HL6.out, put3_below HK6.out (by rw [size_alloc']; have h1 := K22.size HK5.out; omega)⟩
  case rest =>
    obtain ⟨Z, a5, n5, c5, rfl, hbld, hk5⟩ := hcut
    have HD5 := Lib.hid hbld
    have HK5 := Lib.hid hk5
    clear HKa HKb HKc HLa HLb HLc HZa HZb HON1 HON2 HLE1 HLE2 HLN1 HLN2 HEQ HNW1 HNW2 HKD HC3 x0 x1 x2 y0 y1 y2 l0 l1 HK0
    obtain ⟨x0, x1, x2⟩ := HX1.out _ hk5
    obtain ⟨y0, y1, y2⟩ := HX2.out _ hk5
    have l0 : w.heap.size < wc.heap.size := by have := K22.size hk5; omega
    have l1 : w.heap.size + 1 < wc.heap.size := by have := K22.size hk5; omega
    have hs5 := K22.size hk5
    have HSZ := Lib.hid hs5
    have b2 := (cell_of_block hbld.at_ 2).1
    simp at b2
    have b5 := (cell_of_block hbld.at_ 2).2
    have b6 := hbld.lt
    have hw1 : IntKind.i64.wrap ((p : Int) + 1) = (p : Int) + 1 := by rw [IntKind.wrap_i64]; omega
    have hw2 : IntKind.i64.wrap ((r : Int) + (n : Int)) = (r : Int) + n := by rw [IntKind.wrap_i64]; omega
    have hw3 : IntKind.i64.wrap ((r : Int) + (n : Int) + 1) = (r : Int) + n + 1 := by rw [IntKind.wrap_i64]; omega
    clear hbld hk5
    go_wp2_with (at_builtin; refine wpList_pushE2 rfl _ _ rfl (w.heap.size + 3) (.slice none 0 0) [] (⟨0, (p : Int) + 1, ⟨#[]⟩, ⟨#[]⟩⟩ : E) (⟨0, (r : Int) + (n : Int) + 1, ⟨#[]⟩, ⟨#[]⟩⟩ : E) HD5.out.edg HSZ.out (Nat.zero_le _) rfl wc.heap.size rfl rfl ?_; intro v6 w6 hl6 hg6; obtain ⟨a6, n6, c6, rfl, -⟩ := hl6.shape'; have ob6 := BldT.obL HD5.out hg6; have u2 := (cell_of_block ob6 2).1; have u5 := (cell_of_block ob6 2).2; have u6 := lt_of_block ob6; simp at u2; have HD6 := Lib.hid (BldT.pushL HD5.out hl6 hg6); have HK6 := Lib.hid (show K22 w c d _ from Below.setCell (below_grown HK5.out hg6 (by rw [size_alloc']; have := HSZ.out; omega) (fun k hk => by cases hk)) (p := ⟨Z, 2, none⟩) (by rw [size_alloc']; exact HD5.out.obB) (.slice a6 n6 c6)); clear hl6 hg6 ob6)
    have HIN2 := Lib.hid (show Inside sa.length se by rw [← HN.out]; exact HIN.out)
    have HJN2 := Lib.hid (show Inside ta.length te by rw [← HM.out]; exact HJN.out)
    have HT1 := Lib.hid (fun W (hb : K22 w c d W) => (show TrPtr W (w.heap.size + 3) w.heap.size ⟨(p : Nat), sa, se⟩ (.slice (some ⟨ba, oa, none⟩) n ca) vn from
      ⟨(HP1.out W hb).box, (HP1.out W hb).acc.mono (by have := HBB.out; omega), (HP1.out W hb).edges.mono (by have := HBB.out; omega)⟩))
    have HT2 := Lib.hid (fun W (hb : K22 w c d W) => (show TrPtr W (w.heap.size + 3) (w.heap.size + 1) ⟨(r : Nat), ta, te⟩ (.slice (some ⟨bd, od, none⟩) m cd) un from
      ⟨(HP2.out W hb).box, (HP2.out W hb).acc.mono (by have := HBB.out; omega), (HP2.out W hb).edges.mono (by have := HBB.out; omega)⟩))
    clear x0 x1 x2 y0 y1 y2 l0 l1 hs5 HSZ b2 b5 b6 HD5 HK5 u2 u5 u6 hw1 hw2 hw3 HP1 HP2
    refine (addEdges ⟨(p : Nat), sa, se⟩ _ vn w.heap.size 1 Z (w.heap.size + 3) 0 _ _ (eitA ⟨(p : Nat), sa, se⟩ ⟨(r : Nat), ta, te⟩) _ _ (HT1.out _ HK6.out) (by omega) HD6.out HIN2.out (by show sa.length ≤ 1000; rw [← HN.out]; omega) (by show se.length ≤ 1000; omega) (by simp) (by omega)).mono ?_
    rintro e w7 ⟨rfl, vn7, hb7, hbel7⟩
    have HD7 := Lib.hid hb7
    have HK7 := Lib.hid (K22.low HK6.out hbel7 (Nat.le_refl _))
    clear hb7 hbel7 HD6 HK6
    have hw4 : IntKind.i64.wrap ((n : Int) + 1) = ((n + 1 : Nat) : Int) := by rw [IntKind.wrap_i64]; omega
    go_wp2_with fail
    refine (addEdges ⟨(r : Nat), ta, te⟩ _ un (w.heap.size + 1) (n + 1) Z (w.heap.size + 3) 0 _ _ (eitA ⟨(p : Nat), sa, se⟩ ⟨(r : Nat), ta, te⟩) _ _ (HT2.out _ HK7.out) (by omega) HD7.out HJN2.out (by show ta.length ≤ 1000; rw [← HM.out]; omega) (by show te.length ≤ 1000; omega) (by simp; omega) (by omega)).mono ?_
    rintro e w8 ⟨rfl, vn8, hb8, hbel8⟩
    have HK8 := Lib.hid (K22.low HK7.out hbel8 (Nat.le_refl _))
    have HNF := Lib.hid (show eitN ⟨(p : Nat), sa, se⟩ ⟨(r : Nat), ta, te⟩ = ([⟨0, (p : Int) + 1, ⟨#[]⟩, ⟨#[]⟩⟩, ⟨0, (r : Int) + (n : Int) + 1, ⟨#[]⟩, ⟨#[]⟩⟩] ++ se.map (shiftE 1)) ++ te.map (shiftE (n + 1)) by unfold eitN; simp only; rw [HN.out])
    have HBT := Lib.hid (show BuiltT w8 (w.heap.size + 3) (.slice a5 n5 c5) vn8 (eitA ⟨(p : Nat), sa, se⟩ ⟨(r : Nat), ta, te⟩) (eitN ⟨(p : Nat), sa, se⟩ ⟨(r : Nat), ta, te⟩) from
      ⟨hb8.acc, by rw [HNF.out]; exact hb8.edg, eitN_fits HFS.out HFT.out, by
        rw [HNF.out]; simp only [List.length_append, List.length_map, List.length_cons, List.length_nil]; omega⟩)
    have HL1 := Lib.hid (show (eitA ⟨(p : Nat), sa, se⟩ ⟨(r : Nat), ta, te⟩).length ≤ 100000 by unfold eitA; simp only [List.length_append, List.length_cons]; rw [← HN.out, ← HM.out]; omega)
    have HL2 := Lib.hid (show (eitN ⟨(p : Nat), sa, se⟩ ⟨(r : Nat), ta, te⟩).length ≤ 100000 by rw [HNF.out]; simp only [List.length_append, List.length_map, List.length_cons, List.length_nil]; omega)
    obtain ⟨an, nn, cn, rfl, -⟩ := hb8.edg.shape'
    have b0 := (cell_of_block hb8.at_ 0).1
    have b1 := (cell_of_block hb8.at_ 1).1
    have b2 := (cell_of_block hb8.at_ 2).1
    simp at b0 b1 b2
    have b6 := hb8.lt
    clear hb8 hbel8 HD7 HK7 hw4
    go_wp2_with fail
    refine (told 0 _ _ (eitA ⟨(p : Nat), sa, se⟩ ⟨(r : Nat), ta, te⟩) (eitN ⟨(p : Nat), sa, se⟩ ⟨(r : Nat), ta, te⟩) w8 _ HBT.out HL1.out HL2.out).mono ?_
    rintro e w9 ⟨hb9, hor⟩
    have HK9 := Lib.hid (K22.step HK8.out hb9)
    have HB9 := Lib.hid (show BuiltT w9 (w.heap.size + 3) (.slice a5 n5 c5) (.slice an nn cn) (eitA ⟨(p : Nat), sa, se⟩ ⟨(r : Nat), ta, te⟩) (eitN ⟨(p : Nat), sa, se⟩ ⟨(r : Nat), ta, te⟩) from ⟨HBT.out.acc.below hb9, HBT.out.edg.below hb9, HBT.out.fits, HBT.out.short⟩)
    obtain ⟨r0, r1, r2, s0, s1, s2⟩ := K22.cells HK9.out
    have hl := K22.size HK9.out
    clear hb9 b0 b1 b2 b6
    rcases hor with ⟨hf, rfl⟩ | ⟨hf, rfl⟩
    · have HF := Lib.hid hf
      clear hf
      go_wp2
      obtain ⟨g0, g1, g2⟩ := put3_cells (a := .int .i64 0) (b := .slice a5 n5 c5) (c := .slice an nn cn) (K22.res HK9.out)
      refine bodyPost_ret (v := .tuple #[.agg #[.int .i64 0, .slice a5 n5 c5, .slice an nn cn], .int .i64 0]) (by simp [results, Try.results25, go_sem, g0, g1, g2]) rfl ⟨put3_below (K22.base HK9.out) (by omega), .inl ⟨HF.out, _, _, rfl, BuiltT.mono (BuiltT.put3 HB9.out (by omega)) (by omega)⟩⟩
    · have HF := Lib.hid hf
      clear hf
      go_wp2
      obtain ⟨g0, g1, g2⟩ := put3_cells (a := .int .i64 0) (b := .slice none 0 0) (c := .slice none 0 0) (K22.res HK9.out)
      refine bodyPost_ret (v := .tuple #[.agg #[.int .i64 0, .slice none 0 0, .slice none 0 0], .int .i64 3]) (by simp [results, Try.results25, go_sem, g0, g1, g2]) rfl ⟨put3_below (K22.base HK9.out) (by omega), .inr ⟨HF.out, rfl⟩⟩
end Go.Proofs.Ytjoiaenkmmmmpaa.EitSpec
