
/- What the model's BehindTransducer answers for two valid transducers.
   Conditions: the transducers are read as XEdg's text says, and are valid. -/
import Derived.Test.YtjoiaenkmmmmpaaEitSpec
import Derived.Deep.RegionHeld3
import Derived.Deep.DrawnRows
import Derived.Deep.RegionLaw
import Derived.Deep.DeepCutAuto
import Derived.Deep.CutBlock
namespace Go.Proofs.Ytjoiaenkmmmmpaa.BehSpec
set_option linter.unusedVariables false
set_option linter.unusedSimpArgs false
set_option maxRecDepth 100000
open Go.RowKit Mem Copy Rel Heap MarkRow Edg EdgCopy EdgEq TrHeap TrLawKit TrValid TrImplValid TurnImpl TurnSpec Push TrReach TrReached TrimKit AddSpec ToldTr RepSpec TwoTr EitSpec

/-- What is put together. -/
def behA (s t : T) : List Bool := List.replicate s.accept.length false ++ t.accept
def behN (s t : T) : List E := (s.edges.map (shiftE 0) ++ endsTo 0 (t.start.toNat + s.accept.length) s.accept s.accept.length) ++ t.edges.map (shiftE s.accept.length)

theorem behN_fits {s t : T} (h1 : ∀ i, i < s.edges.length → (s.edges.getD i noE).Fits) (h2 : ∀ i, i < t.edges.length → (t.edges.getD i noE).Fits) : ∀ i, i < (behN s t).length → ((behN s t).getD i noE).Fits := by
  have h0 : (⟨#[]⟩ : ByteArray).size ≤ maxLen := Nat.zero_le _
  refine fits_all fun x hm => ?_
  unfold behN at hm
  rcases List.mem_append.1 hm with hm | hm
  · rcases List.mem_append.1 hm with hm | hm
    · exact fits_shift 0 h1 x hm
    · unfold endsTo at hm
      obtain ⟨q, -, rfl⟩ := List.mem_map.1 hm
      exact ⟨h0, h0⟩
  · exact fits_shift _ h2 x hm

set_option maxHeartbeats 8000000 in
theorem behSpec (v v' : Value) (s t : T) (w : World) (B : Nat) (h : TrAt w B v s) (h' : TrAt w B v' t) (hB : B ≤ w.heap.size) (hok : okT s = true) (hok' : okT t = true) :
    Calls Try.prog 27 #[v, v'] w fun e w' => Below w.heap.size w w' ∧
      ((fitsT (behA s t) (behN s t) = true ∧ ∃ va vn, e = .returned (.tuple #[.agg #[.int .i64 s.start, va, vn], .int .i64 0]) ∧ BuiltT w' w.heap.size va vn (behA s t) (behN s t)) ∨
        (fitsT (behA s t) (behN s t) = false ∧ e = .returned (.tuple #[.agg #[.int .i64 0, .slice none 0 0, .slice none 0 0], .int .i64 3]))) := by
  obtain ⟨hn1, hn2, hq, hs0, hs1, -⟩ := ok_parts hok
  obtain ⟨gn1, gn2, gq, gs0, gs1, -⟩ := ok_parts hok'
  have hins := inside_of hok
  have gins := inside_of hok'
  obtain ⟨va, vn, rfl, hacc, hed⟩ := h
  obtain ⟨ua, un, rfl, gacc, ged⟩ := h'
  obtain ⟨ss, sa, se⟩ := s
  obtain ⟨ts, ta, te⟩ := t
  simp only at hn1 hn2 hq hs0 hs1 hins hacc hed gn1 gn2 gq gs0 gs1 gins gacc ged ⊢
  obtain ⟨p, rfl⟩ := Int.eq_ofNat_of_zero_le hs0
  obtain ⟨r, rfl⟩ := Int.eq_ofNat_of_zero_le gs0
  have HFS := Lib.hid (show ∀ i, i < se.length → (se.getD i noE).Fits by obtain ⟨_, _, _, _, _, _, _, hc⟩ := hed; exact fun i hi => (hc i hi).2)
  have HFT := Lib.hid (show ∀ i, i < te.length → (te.getD i noE).Fits by obtain ⟨_, _, _, _, _, _, _, hc⟩ := ged; exact fun i hi => (hc i hi).2)
  obtain ⟨aa, ba, oa, ca, rfl, hma, haa, hca⟩ := hacc
  obtain ⟨rfl, hab⟩ := haa (by omega)
  have hacc : Bools w B (.slice (some ⟨ba, oa, none⟩) sa.length ca) sa := ⟨_, ba, oa, ca, rfl, hma, haa, hca⟩
  obtain ⟨ad, bd, od, cd, rfl, gma, gaa, gca⟩ := gacc
  obtain ⟨rfl, gab⟩ := gaa (by omega)
  have gacc : Bools w B (.slice (some ⟨bd, od, none⟩) ta.length cd) ta := ⟨_, bd, od, cd, rfl, gma, gaa, gca⟩
  obtain ⟨n, hnn⟩ : ∃ n, n = sa.length := ⟨_, rfl⟩
  obtain ⟨m, hmm⟩ : ∃ m, m = ta.length := ⟨_, rfl⟩
  rw [← hnn] at hn1 hn2 hs1 hins hacc ⊢
  rw [← hmm] at gn1 gn2 gs1 gins gacc ⊢
  have HN := Lib.hid hnn
  have HM := Lib.hid hmm
  obtain ⟨c, hc⟩ : ∃ c : Array Value, c = #[.int .i64 (p : Nat), .slice (some ⟨ba, oa, none⟩) n ca, vn] := ⟨_, rfl⟩
  obtain ⟨d, hd⟩ : ∃ d : Array Value, d = #[.int .i64 (r : Nat), .slice (some ⟨bd, od, none⟩) m cd, un] := ⟨_, rfl⟩
  have HX1 := Lib.hid (fun W (hb : K22 w c d W) => (show W.cell? ⟨w.heap.size, 0, none⟩ = some (.int .i64 (p : Nat)) ∧ W.cell? ⟨w.heap.size, 1, none⟩ = some (.slice (some ⟨ba, oa, none⟩) n ca) ∧ W.cell? ⟨w.heap.size, 2, none⟩ = some vn from by rw [hc] at hb; exact K22.box1 hb))
  have HX2 := Lib.hid (fun W (hb : K22 w c d W) => (show W.cell? ⟨w.heap.size + 1, 0, none⟩ = some (.int .i64 (r : Nat)) ∧ W.cell? ⟨w.heap.size + 1, 1, none⟩ = some (.slice (some ⟨bd, od, none⟩) m cd) ∧ W.cell? ⟨w.heap.size + 1, 2, none⟩ = some un from by rw [hd] at hb; exact K22.box2 hb))
  have HP1 := Lib.hid (fun W (hb : K22 w c d W) => (show TrPtr W B w.heap.size ⟨(p : Nat), sa, se⟩ (.slice (some ⟨ba, oa, none⟩) n ca) vn from
    ⟨⟨(HX1.out W hb).1, (HX1.out W hb).2.1, (HX1.out W hb).2.2, by have := K22.size hb; omega⟩, hacc.below (K22.base hb) hB, hed.below (K22.base hb) hB⟩))
  have HP2 := Lib.hid (fun W (hb : K22 w c d W) => (show TrPtr W B (w.heap.size + 1) ⟨(r : Nat), ta, te⟩ (.slice (some ⟨bd, od, none⟩) m cd) un from
    ⟨⟨(HX2.out W hb).1, (HX2.out W hb).2.1, (HX2.out W hb).2.2, by have := K22.size hb; omega⟩, gacc.below (K22.base hb) hB, ged.below (K22.base hb) hB⟩))
  have hk0 : K22 w c d (((w.alloc (.cells c 30)).alloc (.cells d 30)).alloc zeroT) := Below.refl _ _
  have HV1 := Lib.hid (specOk ⟨(p : Nat), sa, se⟩ _ vn w.heap.size _ B (HP1.out _ hk0))
  have HV2 := Lib.hid (specOk ⟨(r : Nat), ta, te⟩ _ un (w.heap.size + 1) _ B (HP2.out _ hk0))
  rw [hok] at HV1
  rw [hok'] at HV2
  have HNW1 := Lib.hid (fun W (hb : K22 w c d W) => news_bools (hacc.below (K22.base hb) hB) (by omega))
  have HNW2 := Lib.hid (fun W (hb : K22 w c d W) => news_bools (gacc.below (K22.base hb) hB) (by omega))
  have HAC := Lib.hid (fun W (hb : K22 w c d W) (i : Nat) (hi : i < n) => (show W.cell? ⟨ba, oa + i, none⟩ = some (.bool (sa.getD i false)) from ((K22.base hb).cell (p := ⟨ba, oa + i, none⟩) (by show ba < _; omega)).trans (hca i (by omega))))
  have HBA := Lib.hid (show ba < w.heap.size by omega)
  have HIN := Lib.hid hins
  have HJN := Lib.hid gins
  have HBB := Lib.hid hB
  have HK0 := Lib.hid hk0
  clear hok hok' hs0 gs0 hma haa hca hacc hed hins gma gaa gca gacc ged gins hnn hmm hk0 hab gab hB
  go_enter Try.func27, Try.ntmps27
  go_wp2_with fail
  rw [← hc, ← hd]
  generalize hW : ((w.alloc (.cells c 30)).alloc (.cells d 30)).alloc (.cells #[Value.int .i64 0, .slice none 0 0, .slice none 0 0] 30) = W at HK0 HV1 HV2 ⊢
  clear hW hc hd
  refine HV1.out.mono ?_
  rintro e w1 ⟨rfl, rfl⟩
  go_wp2_with fail
  refine HV2.out.mono ?_
  rintro e w1 ⟨rfl, rfl⟩
  clear HV1 HV2
  obtain ⟨x0, x1, x2⟩ := HX1.out _ HK0.out
  obtain ⟨y0, y1, y2⟩ := HX2.out _ HK0.out
  have l0 : w.heap.size < W.heap.size := by have := K22.size HK0.out; omega
  have l1 : w.heap.size + 1 < W.heap.size := by have := K22.size HK0.out; omega
  go_upto_region 4 with fail
  have HKD := Lib.hid (K22.step HK0.out ((Below.refl _ _).drew))
  have HC3 := Lib.hid (show ∀ V, K22 w c d V → V.cell? ⟨w.heap.size, 0, none⟩ = some (.int .i64 (p : Nat)) ∧ V.cell? ⟨w.heap.size + 1, 1, none⟩ = some (.slice (some ⟨bd, od, none⟩) m cd) from fun V hV => ⟨(HX1.out V hV).1, (HX2.out V hV).2.1⟩)
  have HKa := Lib.hid (show K22 w c d (((W.alloc zeroT).alloc (.cells (madeCells #[Value.bool false] n) 4)).drew) from K22.step HK0.out ((((Below.refl _ _).alloc (Nat.le_refl _) _).alloc (by rw [size_alloc']; omega) _).drew))
  have HKb := Lib.hid (show K22 w c d (((W.alloc (.cells (madeCells #[Value.bool false] n) 4)).alloc zeroT).drew) from K22.step HK0.out ((((Below.refl _ _).alloc (Nat.le_refl _) _).alloc (by rw [size_alloc']; omega) _).drew))
  have HKc := Lib.hid (show K22 w c d ((W.alloc (.cells (madeCells #[Value.bool false] n) 4)).drew) from K22.step HK0.out (((Below.refl _ _).alloc (Nat.le_refl _) _).drew))
  have HLc := Lib.hid (show Lst ((W.alloc (.cells (madeCells #[Value.bool false] n) 4)).drew) (w.heap.size + 3) 4 (.slice (some ⟨W.heap.size, 0, none⟩) n n) (List.replicate n (.bool false)) from Lst.made W (w.heap.size + 3) 4 (.bool false) n (K22.size HK0.out) (by unfold maxLen; omega))
  have HLb := Lib.hid (show Lst (((W.alloc (.cells (madeCells #[Value.bool false] n) 4)).alloc zeroT).drew) (w.heap.size + 3) 4 (.slice (some ⟨W.heap.size, 0, none⟩) n n) (List.replicate n (.bool false)) from (Lst.made W (w.heap.size + 3) 4 (.bool false) n (K22.size HK0.out) (by unfold maxLen; omega)).alloc _)
  have HLa := Lib.hid (show Lst (((W.alloc zeroT).alloc (.cells (madeCells #[Value.bool false] n) 4)).drew) (w.heap.size + 3) 4 (.slice (some ⟨W.heap.size + 1, 0, none⟩) n n) (List.replicate n (.bool false)) from by
    have := Lst.made (W.alloc zeroT) (w.heap.size + 3) 4 (.bool false) n (by rw [size_alloc']; have := K22.size HK0.out; omega) (by unfold maxLen; omega)
    rw [size_alloc'] at this; exact this)
  have HZa := Lib.hid (show (((W.alloc zeroT).alloc (.cells (madeCells #[Value.bool false] n) 4)).drew).heap[W.heap.size]? = some (.cells #[Value.int .i64 0, .slice none 0 0, .slice none 0 0] 30 (0, 0)) from (Below.heap_alloc _ _ _ (by rw [size_alloc']; omega)).trans (heap_alloc_new W zeroT))
  have HZb := Lib.hid (show (((W.alloc (.cells (madeCells #[Value.bool false] n) 4)).alloc zeroT).drew).heap[W.heap.size + 1]? = some (.cells #[Value.int .i64 0, .slice none 0 0, .slice none 0 0] 30 (0, 0)) from by
    have := heap_alloc_new (W.alloc (.cells (madeCells #[Value.bool false] n) 4)) zeroT
    rw [size_alloc'] at this; exact this)
  have HON2 := Lib.hid (show ∀ u ∈ ta.map Value.bool, u.oneCell' = true from fun u hu => by obtain ⟨b, -, rfl⟩ := List.mem_map.1 hu; rfl)
  have HLE2 := Lib.hid (show (ta.map Value.bool).length = m by rw [List.length_map]; exact HM.out.symm)
  have HLN2 := Lib.hid (show (List.replicate n (Value.bool false) : List Value).length + (ta.map Value.bool).length ≤ 100000000 by rw [HLE2.out, List.length_replicate]; omega)
  have HEQ := Lib.hid (show List.replicate n (Value.bool false) ++ ta.map Value.bool = (behA ⟨(p : Nat), sa, se⟩ ⟨(r : Nat), ta, te⟩).map Value.bool from by unfold behA; simp only; rw [← HN.out]; simp)
  have HM0 := Lib.hid (show 0 < m by omega)
  have hmk := run_make_row' (P := Try.prog) 22 4 (.bool false) 1 Try.underlying22 info4 rfl .i64 .i64 n (by omega) (by omega)
  go_cut [7] (fun v7 wx => ∃ (Z : Nat) (a5 : Option Addr) (n5 c5 : Nat), v7 = .pointer (some ⟨Z, 0, none⟩) ∧ BldT wx (w.heap.size + 3) Z (p : Nat) (.slice a5 n5 c5) (.slice none 0 0) (behA ⟨(p : Nat), sa, se⟩ ⟨(r : Nat), ta, te⟩) [] ∧ K22 w c d wx)
  case first =>
    go_region_held3 (fun w' => w'.cell? ⟨w.heap.size, 0, none⟩ = some (.int .i64 (p : Nat)) ∧ w'.cell? ⟨w.heap.size + 1, 1, none⟩ = some (.slice (some ⟨bd, od, none⟩) m cd))
      (first | go_keep | exact HC3.out _ HKD.out | exact HC3.out _ (put3_below HK6.out (by rw [size_alloc']; have h1 := K22.size HK0.out; omega)))
      ((refine step_pushs rfl _ _ 22 (by rfl) 4 (.bool false) 1 Try.underlying22 info4 (by decide) (by decide) (w.heap.size + 3) _ (List.replicate n (.bool false)) (by first | exact HLa.out | exact HLb.out | exact HLc.out) (by first | exact K22.size HKa.out | exact K22.size HKb.out | exact K22.size HKc.out) (ta.map Value.bool) HON2.out HLN2.out (by rfl) ⟨bd, od, none⟩ m cd (by rfl) HLE2.out HM0.out (by first | exact HNW2.out _ HKa.out | exact HNW2.out _ HKb.out | exact HNW2.out _ HKc.out) ?_; intro v6 w6 hl6 hg6; (first | (have HK6 := Lib.hid (K22.grown HKa.out HLa.out hg6); have o6 := zero_keep HZa.out HLa.out hg6) | (have HK6 := Lib.hid (K22.grown HKb.out HLb.out hg6); have o6 := zero_keep HZb.out HLb.out hg6) | (have HK6 := Lib.hid (K22.grown HKc.out HLc.out hg6))); rw [HEQ.out] at hl6; obtain ⟨a6, n6, c6, rfl, HN6⟩ := hl6.shape'; have HL6 := Lib.hid hl6; obtain ⟨q61, q62⟩ := HC3.out _ HK6.out; have l61 : w.heap.size < w6.heap.size := (by have := K22.size HK6.out; omega); have l62 : w.heap.size + 1 < w6.heap.size := (by have := K22.size HK6.out; omega); (try (have z60 := (cell_of_block o6 0).1; have z61 := (cell_of_block o6 1).1; have z62 := (cell_of_block o6 2).1; have z63 := (cell_of_block o6 0).2; have z64 := (cell_of_block o6 1).2; have z65 := (cell_of_block o6 2).2; have z66 := lt_of_block o6; simp at z60 z61 z62; have HO6 := Lib.hid o6; clear o6)); clear hl6 hg6))
    all_goals
      go_wp2_with fail
      go_meet
      first
        | exact ⟨_, _, _, _, rfl, BldT.new HL6.out (K22.size HK6.out), K22.step HK6.out ((Below.refl _ _).alloc (Nat.le_refl _) _)⟩
        | exact ⟨_, _, _, _, rfl, BldT.boxed HO6.out (by have h1 := K22.size HK0.out; omega) HL6.out, put3_below HK6.out (by rw [size_alloc']; have h1 := K22.size HK0.out; omega)⟩
  case rest =>
    obtain ⟨Z, a5, n5, c5, rfl, hbld, hk5⟩ := hcut
    have HD5 := Lib.hid hbld
    have HK5 := Lib.hid hk5
    clear HKa HKb HKc HLa HLb HLc HZa HZb HON2 HLE2 HLN2 HEQ HNW1 HNW2 HKD HC3 x0 x1 x2 y0 y1 y2 l0 l1 HK0 hmk
    have HIN2 := Lib.hid (show Inside sa.length se by rw [← HN.out]; exact HIN.out)
    have HJN2 := Lib.hid (show Inside ta.length te by rw [← HM.out]; exact HJN.out)
    have HT1 := Lib.hid (fun W (hb : K22 w c d W) => (show TrPtr W (w.heap.size + 3) w.heap.size ⟨(p : Nat), sa, se⟩ (.slice (some ⟨ba, oa, none⟩) n ca) vn from
      ⟨(HP1.out W hb).box, (HP1.out W hb).acc.mono (by have := HBB.out; omega), (HP1.out W hb).edges.mono (by have := HBB.out; omega)⟩))
    have HT2 := Lib.hid (fun W (hb : K22 w c d W) => (show TrPtr W (w.heap.size + 3) (w.heap.size + 1) ⟨(r : Nat), ta, te⟩ (.slice (some ⟨bd, od, none⟩) m cd) un from
      ⟨(HP2.out W hb).box, (HP2.out W hb).acc.mono (by have := HBB.out; omega), (HP2.out W hb).edges.mono (by have := HBB.out; omega)⟩))
    clear HP1 HP2
    go_wp2_with fail
    refine (addEdges ⟨(p : Nat), sa, se⟩ _ vn w.heap.size 0 Z (w.heap.size + 3) (p : Nat) _ _ (behA ⟨(p : Nat), sa, se⟩ ⟨(r : Nat), ta, te⟩) _ _ (HT1.out _ HK5.out) (by omega) HD5.out HIN2.out (by show sa.length ≤ 1000; rw [← HN.out]; omega) (by show se.length ≤ 1000; omega) (by simp) (by omega)).mono ?_
    rintro e w7 ⟨rfl, vn7, hb7, hbel7⟩
    have HB7 := Lib.hid (show BldT w7 (w.heap.size + 3) Z (p : Nat) (.slice a5 n5 c5) vn7 (behA ⟨(p : Nat), sa, se⟩ ⟨(r : Nat), ta, te⟩) (se.map (shiftE 0) ++ endsTo 0 (r + n) sa 0) from by rw [show endsTo 0 (r + n) sa 0 = [] from rfl, List.append_nil]; exact hb7)
    have HK7 := Lib.hid (K22.low HK5.out hbel7 (Nat.le_refl _))
    clear hb7 hbel7 HD5 HK5
    go_wp2_with fail
    go_loopw [8] (fun v8 wr => ∃ (k : Nat) (vx : Value), k ≤ n ∧ v8 = .int .i64 k ∧ BldT wr (w.heap.size + 3) Z (p : Nat) (.slice a5 n5 c5) vx (behA ⟨(p : Nat), sa, se⟩ ⟨(r : Nat), ta, te⟩) (se.map (shiftE 0) ++ endsTo 0 (r + n) sa k) ∧ K22 w c d wr) (fun v8 _ => n - (intOf v8).toNat)
    case atStart => exact ⟨0, _, Nat.zero_le _, rfl, HB7.out, HK7.out⟩
    case round =>
      obtain ⟨k, vx, hk, rfl, hT, hK⟩ := hrel
      obtain ⟨an, nn, cn, rfl, HNN⟩ := hT.edg.shape'
      have HT := Lib.hid hT
      have HK := Lib.hid hK
      obtain ⟨x0, x1, x2⟩ := HX1.out _ hK
      obtain ⟨y0, y1, y2⟩ := HX2.out _ hK
      have l0 : w.heap.size < wr.heap.size := by have := K22.size hK; omega
      have l1 : w.heap.size + 1 < wr.heap.size := by have := K22.size hK; omega
      have hsz := K22.size hK
      have b2 := (cell_of_block hT.at_ 2).1
      simp at b2
      have b5 := (cell_of_block hT.at_ 2).2
      have b6 := hT.lt
      clear HB7 HK7
      by_cases hlt : k < n
      · have e1 := HAC.out _ hK k hlt
        have l2 : ba < wr.heap.size := by have := HBA.out; omega
        obtain ⟨b, hb⟩ : ∃ b, b = sa.getD k false := ⟨_, rfl⟩
        rw [← hb] at e1
        have HBV := Lib.hid hb
        clear hb hT hK
        cases b with
        | true =>
          have HEE := Lib.hid (show endsTo 0 (r + n) sa (k + 1) = endsTo 0 (r + n) sa k ++ [⟨(k : Int), (r : Int) + (n : Int), ⟨#[]⟩, ⟨#[]⟩⟩] from by
            have := endsTo_yes 0 (r + n) HBV.out.symm
            rwa [show ((k : Nat) : Int) + ((0 : Nat) : Int) = (k : Int) from Int.add_zero _, Int.natCast_add] at this)
          have hwk : IntKind.i64.wrap ((k : Int) + 1) = (k : Int) + 1 := by rw [IntKind.wrap_i64]; omega
          have hwt : IntKind.i64.wrap ((r : Int) + (n : Int)) = (r : Int) + (n : Int) := by rw [IntKind.wrap_i64]; omega
          have HLE := Lib.hid (show (se.map (shiftE 0) ++ endsTo 0 (r + n) sa k).length ≤ 100000000 by rw [List.length_append, List.length_map]; have := endsTo_length 0 (r + n) sa k; omega)
          have HSW := Lib.hid hsz
          go_wp2_with (at_builtin; refine wpList_pushE rfl _ _ rfl (w.heap.size + 3) (.slice an nn cn) _ (⟨(k : Int), (r : Int) + (n : Int), ⟨#[]⟩, ⟨#[]⟩⟩ : E) HT.out.edg HSW.out HLE.out rfl wr.heap.size rfl rfl ?_; intro v6 w6 hp6; obtain ⟨a6, n6, c6, rfl, -⟩ := hp6.lst.shape'; have ob6 := HT.out.obE hp6; have u2 := (cell_of_block ob6 2).1; have u5 := (cell_of_block ob6 2).2; have u6 := lt_of_block ob6; simp at u2; have HD6 := Lib.hid (HT.out.push hp6); have HK6 := Lib.hid (show K22 w c d _ from Below.setCell (below_grown HK.out hp6.grow (by rw [size_alloc']; have := HSW.out; omega) (fun k hk => by rw [size_alloc']; have := HT.out.edg.ge hk; omega)) (p := ⟨Z, 2, none⟩) (by rw [size_alloc']; exact HT.out.obB) (.slice a6 n6 c6)); clear hp6 ob6)
          go_roundw
          case rel => exact ⟨k + 1, _, by omega, by go_num, by rw [HEE.out, ← List.append_assoc]; exact HD6.out, HK6.out⟩
          case measure => simp [intOf]; omega
        | false =>
          have HEE := Lib.hid (show endsTo 0 (r + n) sa (k + 1) = endsTo 0 (r + n) sa k from endsTo_no 0 (r + n) HBV.out.symm)
          have hwk : IntKind.i64.wrap ((k : Int) + 1) = (k : Int) + 1 := by rw [IntKind.wrap_i64]; omega
          go_wp2
          go_roundw
          case rel => exact ⟨k + 1, _, by omega, by go_num, by rw [HEE.out]; exact HT.out, HK.out⟩
          case measure => simp [intOf]; omega
      · obtain rfl : n = k := by omega
        have HNF := Lib.hid (show behN ⟨(p : Nat), sa, se⟩ ⟨(r : Nat), ta, te⟩ = (se.map (shiftE 0) ++ endsTo 0 (r + n) sa n) ++ te.map (shiftE n) by unfold behN; simp only; rw [← HN.out]; rfl)
        clear x0 x1 x2 y0 y1 y2 l0 l1 hsz b2 b5 b6 hT hK
        have HES := Lib.hid (show (se.map (shiftE 0) ++ endsTo 0 (r + n) sa n).length ≤ 1000 by rw [List.length_append, List.length_map]; have := endsTo_length 0 (r + n) sa n; omega)
        go_wp2_with fail
        refine (addEdges ⟨(r : Nat), ta, te⟩ _ un (w.heap.size + 1) n Z (w.heap.size + 3) (p : Nat) _ _ (behA ⟨(p : Nat), sa, se⟩ ⟨(r : Nat), ta, te⟩) _ _ (HT2.out _ HK.out) (by omega) HT.out HJN2.out (by show ta.length ≤ 1000; rw [← HM.out]; omega) (by show te.length ≤ 1000; omega) (by have := HES.out; omega) (by omega)).mono ?_
        rintro e w8 ⟨rfl, vn8, hb8, hbel8⟩
        have HK8 := Lib.hid (K22.low HK.out hbel8 (Nat.le_refl _))
        have HBT := Lib.hid (show BuiltT w8 (w.heap.size + 3) (.slice a5 n5 c5) vn8 (behA ⟨(p : Nat), sa, se⟩ ⟨(r : Nat), ta, te⟩) (behN ⟨(p : Nat), sa, se⟩ ⟨(r : Nat), ta, te⟩) from
          ⟨hb8.acc, by rw [HNF.out]; exact hb8.edg, behN_fits HFS.out HFT.out, by
            rw [HNF.out, List.length_append, List.length_map]; have := HES.out; omega⟩)
        have HL1 := Lib.hid (show (behA ⟨(p : Nat), sa, se⟩ ⟨(r : Nat), ta, te⟩).length ≤ 100000 by unfold behA; simp only [List.length_append, List.length_replicate]; rw [← HN.out, ← HM.out]; omega)
        have HL2 := Lib.hid (show (behN ⟨(p : Nat), sa, se⟩ ⟨(r : Nat), ta, te⟩).length ≤ 100000 by rw [HNF.out, List.length_append, List.length_map]; have := HES.out; omega)
        obtain ⟨a9, n9, c9, rfl, -⟩ := hb8.edg.shape'
        have b0 := (cell_of_block hb8.at_ 0).1
        have b1 := (cell_of_block hb8.at_ 1).1
        have b2 := (cell_of_block hb8.at_ 2).1
        simp at b0 b1 b2
        have b6 := hb8.lt
        clear hb8 hbel8 HT HK hk hlt
        go_wp2_with fail
        refine (told (p : Nat) _ _ (behA ⟨(p : Nat), sa, se⟩ ⟨(r : Nat), ta, te⟩) (behN ⟨(p : Nat), sa, se⟩ ⟨(r : Nat), ta, te⟩) w8 _ HBT.out HL1.out HL2.out).mono ?_
        rintro e w9 ⟨hb9, hor⟩
        have HK9 := Lib.hid (K22.step HK8.out hb9)
        have HB9 := Lib.hid (show BuiltT w9 (w.heap.size + 3) (.slice a5 n5 c5) (.slice a9 n9 c9) (behA ⟨(p : Nat), sa, se⟩ ⟨(r : Nat), ta, te⟩) (behN ⟨(p : Nat), sa, se⟩ ⟨(r : Nat), ta, te⟩) from ⟨HBT.out.acc.below hb9, HBT.out.edg.below hb9, HBT.out.fits, HBT.out.short⟩)
        obtain ⟨r0, r1, r2, s0, s1, s2⟩ := K22.cells HK9.out
        have hl := K22.size HK9.out
        clear hb9 b0 b1 b2 b6
        rcases hor with ⟨hf, rfl⟩ | ⟨hf, rfl⟩
        · have HF := Lib.hid hf
          clear hf
          go_wp2
          obtain ⟨g0, g1, g2⟩ := put3_cells (a := .int .i64 (p : Nat)) (b := .slice a5 n5 c5) (c := .slice a9 n9 c9) (K22.res HK9.out)
          refine bodyPost_ret (v := .tuple #[.agg #[.int .i64 (p : Nat), .slice a5 n5 c5, .slice a9 n9 c9], .int .i64 0]) (by simp [results, Try.results27, go_sem, g0, g1, g2]) rfl ⟨put3_below (K22.base HK9.out) (by omega), .inl ⟨HF.out, _, _, rfl, BuiltT.mono (BuiltT.put3 HB9.out (by omega)) (by omega)⟩⟩
        · have HF := Lib.hid hf
          clear hf
          go_wp2
          obtain ⟨g0, g1, g2⟩ := put3_cells (a := .int .i64 0) (b := .slice none 0 0) (c := .slice none 0 0) (K22.res HK9.out)
          refine bodyPost_ret (v := .tuple #[.agg #[.int .i64 0, .slice none 0 0, .slice none 0 0], .int .i64 3]) (by simp [results, Try.results27, go_sem, g0, g1, g2]) rfl ⟨put3_below (K22.base HK9.out) (by omega), .inr ⟨HF.out, rfl⟩⟩
end Go.Proofs.Ytjoiaenkmmmmpaa.BehSpec
