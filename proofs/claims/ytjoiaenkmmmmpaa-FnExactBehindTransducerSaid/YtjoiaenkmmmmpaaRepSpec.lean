
/- What the model's RepeatTransducer answers: a transducer in memory of its own, and a code.
   Conditions: the transducer is read as XEdg's text says. -/
import Derived.Test.YtjoiaenkmmmmpaaAddSpec
import Derived.Test.YtjoiaenkmmmmpaaToldTr
import Derived.Test.YtjoiaenkmmmmpaaPush
namespace Go.Proofs.Ytjoiaenkmmmmpaa.RepSpec
set_option linter.unusedVariables false
set_option linter.unusedSimpArgs false
set_option maxRecDepth 100000
open Go.RowKit Mem Copy Rel Heap MarkRow Edg EdgCopy EdgEq TrHeap TrLawKit TrValid TrImplValid TurnImpl TurnSpec Push TrReach TrReached TrimKit AddSpec ToldTr

/-- The edges from accepting states below k, each to the state to. -/
def endsTo (at_ tt : Nat) (acc : List Bool) (k : Nat) : List E := ((List.range k).filter fun q => acc.getD q false).map fun q => ⟨((q : Nat) : Int) + (at_ : Int), (tt : Nat), ⟨#[]⟩, ⟨#[]⟩⟩
theorem endsTo_yes (a b : Nat) {acc : List Bool} {k : Nat} (h : acc.getD k false = true) : endsTo a b acc (k + 1) = endsTo a b acc k ++ [⟨((k : Nat) : Int) + (a : Int), (b : Nat), ⟨#[]⟩, ⟨#[]⟩⟩] := by
  unfold endsTo
  rw [List.range_succ, List.filter_append, List.map_append, List.filter_cons, if_pos h]; rfl
theorem endsTo_no (a b : Nat) {acc : List Bool} {k : Nat} (h : acc.getD k false = false) : endsTo a b acc (k + 1) = endsTo a b acc k := by
  unfold endsTo
  rw [List.range_succ, List.filter_append, List.map_append, List.filter_cons, if_neg (by rw [h]; exact Bool.false_ne_true)]; exact List.append_nil _
theorem endsTo_length (a b : Nat) (acc : List Bool) (k : Nat) : (endsTo a b acc k).length ≤ k := by
  unfold endsTo
  rw [List.length_map]
  exact Nat.le_trans (List.length_filter_le _ _) (by rw [List.length_range]; exact Nat.le_refl _)
/-- What is put together. -/
def repN (t : T) : List E := ([⟨0, t.start + 1, ⟨#[]⟩, ⟨#[]⟩⟩] ++ t.edges.map (shiftE 1)) ++ endsTo 1 0 t.accept t.accept.length
def repA (t : T) : List Bool := true :: t.accept

theorem repN_fits {t : T} (h : ∀ i, i < t.edges.length → (t.edges.getD i noE).Fits) : ∀ i, i < (repN t).length → ((repN t).getD i noE).Fits := by
  intro i hi
  have hm : (repN t).getD i noE ∈ repN t := by
    have e : (repN t).getD i noE = (repN t)[i] := by simp [List.getD, hi]
    rw [e]; exact List.getElem_mem hi
  have h0 : (⟨#[]⟩ : ByteArray).size ≤ maxLen := Nat.zero_le _
  generalize (repN t).getD i noE = x at hm
  unfold repN at hm
  rcases List.mem_append.1 hm with hm | hm
  · rcases List.mem_append.1 hm with hm | hm
    · rw [List.mem_singleton] at hm
      subst hm
      exact ⟨h0, h0⟩
    · obtain ⟨e, he, rfl⟩ := List.mem_map.1 hm
      obtain ⟨j, hj, rfl⟩ := List.getElem_of_mem he
      have := h j hj
      rw [show t.edges.getD j noE = t.edges[j] by simp [List.getD, hj]] at this
      exact this
  · obtain ⟨q, -, rfl⟩ := List.mem_map.1 hm
    exact ⟨h0, h0⟩

set_option maxHeartbeats 8000000 in
theorem repSpec (v : Value) (t : T) (w : World) (B : Nat) (h : TrAt w B v t) (hB : B ≤ w.heap.size) (hok : okT t = true) :
    Calls Try.prog 23 #[v] w fun e w' => Below w.heap.size w w' ∧
      ((fitsT (repA t) (repN t) = true ∧ ∃ va vn, e = .returned (.tuple #[.agg #[.int .i64 0, va, vn], .int .i64 0]) ∧ BuiltT w' w.heap.size va vn (repA t) (repN t)) ∨
        (fitsT (repA t) (repN t) = false ∧ e = .returned (.tuple #[.agg #[.int .i64 0, .slice none 0 0, .slice none 0 0], .int .i64 3]))) := by
  obtain ⟨hn1, hn2, hq, hs0, hs1, hall⟩ := ok_parts hok
  have hins : Inside t.accept.length t.edges := by
    intro k hk
    have h1 := edge_ok hall k hk
    unfold edgeOk at h1
    simp only [Bool.and_eq_true] at h1
    obtain ⟨⟨⟨h2, h3⟩, -⟩, -⟩ := h1
    unfold Columns.inB at h2 h3
    have h4 := of_decide_eq_true h2
    have h5 := of_decide_eq_true h3
    exact ⟨h4.1, by omega, h5.1, by omega⟩
  obtain ⟨va, vn, rfl, hacc, hed⟩ := h
  obtain ⟨ts, ta, te⟩ := t
  simp only at hn1 hn2 hq hs0 hs1 hins hacc hed ⊢
  obtain ⟨st, rfl⟩ := Int.eq_ofNat_of_zero_le hs0
  have HFT := Lib.hid (show ∀ i, i < te.length → (te.getD i noE).Fits by obtain ⟨_, _, _, _, _, _, _, hc⟩ := hed; exact fun i hi => (hc i hi).2)
  obtain ⟨aa, ba, oa, ca, rfl, hma, haa, hca⟩ := hacc
  obtain ⟨rfl, hab⟩ := haa (by omega)
  have hacc : Bools w B (.slice (some ⟨ba, oa, none⟩) ta.length ca) ta := ⟨_, ba, oa, ca, rfl, hma, haa, hca⟩
  obtain ⟨n, hnn⟩ : ∃ n, n = ta.length := ⟨_, rfl⟩
  rw [← hnn] at hn1 hn2 hs1 hins hacc hca ⊢
  have HN := Lib.hid hnn
  have hk0 : K2 w #[.int .i64 (st : Nat), .slice (some ⟨ba, oa, none⟩) n ca, vn] ((w.alloc (.cells #[.int .i64 (st : Nat), .slice (some ⟨ba, oa, none⟩) n ca, vn] 30)).alloc Z3) := Below.refl _ _
  have HPT := Lib.hid (fun W (hb : K2 w #[.int .i64 (st : Nat), .slice (some ⟨ba, oa, none⟩) n ca, vn] W) => (show TrPtr W B w.heap.size ⟨(st : Nat), ta, te⟩ (.slice (some ⟨ba, oa, none⟩) n ca) vn from
    ⟨⟨(K2.boxc hb).1, (K2.boxc hb).2.1, (K2.boxc hb).2.2, by have := K2.size hb; omega⟩, hacc.below (K2.base hb) hB, hed.below (K2.base hb) hB⟩))
  have HV := Lib.hid (specOk ⟨(st : Nat), ta, te⟩ _ vn w.heap.size _ B (HPT.out _ hk0))
  rw [hok] at HV
  have HA := Lib.hid (fun W (hb : Below w.heap.size w W) (i : Nat) (hi : i < n) => (show W.cell? ⟨ba, oa + i, none⟩ = some (.bool (ta.getD i false)) from (hb.cell (p := ⟨ba, oa + i, none⟩) (by show ba < _; omega)).trans (hca i hi)))
  have HNW := Lib.hid (fun W (hb : Below w.heap.size w W) => news_bools (hacc.below hb hB) (by omega))
  have HIN := Lib.hid hins
  have HBL := Lib.hid hab
  have HBB := Lib.hid hB
  have HK0 := Lib.hid hk0
  clear hok hall hs0 hma haa hca hacc hed hins hnn hk0 hab hB
  go_enter Try.func23, Try.ntmps23
  go_wp2_with fail
  refine HV.out.mono ?_
  rintro e w1 ⟨rfl, rfl⟩
  generalize hW : (w.alloc (.cells #[.int .i64 (st : Nat), .slice (some ⟨ba, oa, none⟩) n ca, vn] 30)).alloc (.cells #[Value.int .i64 0, .slice none 0 0, .slice none 0 0] 30) = W at HK0 ⊢
  clear hW HV
  obtain ⟨x0, x1, x2⟩ := K2.boxc HK0.out
  have l0 : w.heap.size < W.heap.size := by have := K2.size HK0.out; omega
  have HKA := Lib.hid (K2.step HK0.out ((Below.refl _ _).alloc (Nat.le_refl _) (.cells #[Value.bool true] 4)))
  have HL1 := Lib.hid ((Lst.one W (w.heap.size + 2) 4 (.bool true) (K2.size HK0.out)))
  have HSZ := Lib.hid (K2.size HKA.out)
  have HNEW := Lib.hid (HNW.out _ (K2.base HKA.out))
  have HLN := Lib.hid (show (([Value.bool true] : List Value).length + (ta.map Value.bool).length) ≤ 100000000 by rw [List.length_map, ← HN.out]; simp; omega)
  have hws : IntKind.i64.wrap ((st : Int) + 1) = (st : Int) + 1 := by rw [IntKind.wrap_i64]; omega
  go_wp2_with (first
    | (at_builtin; refine wpList_pushs rfl _ _ 22 rfl 4 (.bool false) 1 Try.underlying22 info4 (by decide) (by decide) (w.heap.size + 2) (.slice (some ⟨W.heap.size, 0, none⟩) 1 1) [.bool true] HL1.out HSZ.out (ta.map Value.bool) (fun u hu => by obtain ⟨b, -, rfl⟩ := List.mem_map.1 hu; rfl) HLN.out rfl ⟨ba, oa, none⟩ n ca rfl (by rw [List.length_map]; exact HN.out.symm) HNEW.out ?_; intro v5 w5 hl5 hg5; obtain ⟨a5, n5, c5, rfl, HN5⟩ := hl5.shape'; have HK5 := Lib.hid (show K2 w _ w5 from below_grown HKA.out hg5 HSZ.out (fun k hk => HL1.out.ge hk)); have HD5 := Lib.hid (show BldT (w5.alloc (.cells #[Value.int .i64 0, .slice a5 n5 c5, .slice none 0 0] 30)) (w.heap.size + 2) w5.heap.size 0 (.slice a5 n5 c5) (.slice none 0 0) (true :: ta) [] from BldT.new hl5 (K2.size HK5.out)); have HK5a := Lib.hid (K2.step HK5.out ((Below.refl _ _).alloc (Nat.le_refl _) (.cells #[Value.int .i64 0, .slice a5 n5 c5, .slice none 0 0] 30))); have HS5 := Lib.hid (K2.size HK5a.out); have HNA := Lib.hid (size_alloc' w5 (.cells #[Value.int .i64 0, .slice a5 n5 c5, .slice none 0 0] 30)); obtain ⟨y0, y1, y2⟩ := K2.boxc HK5.out; have l5 : w.heap.size < w5.heap.size := (by have := K2.size HK5.out; omega); clear hl5 hg5)
    | (at_builtin; refine wpList_pushE rfl _ _ rfl (w.heap.size + 2) (.slice none 0 0) [] (⟨0, (st : Int) + 1, ⟨#[]⟩, ⟨#[]⟩⟩ : E) HD5.out.edg HS5.out (Nat.zero_le _) rfl (w5.heap.size + 1) rfl HNA.out ?_; intro v6 w6 hp6; obtain ⟨a6, n6, c6, rfl, -⟩ := hp6.lst.shape'; have ob6 := HD5.out.obE hp6; have u2 := (cell_of_block ob6 2).1; have u5 := (cell_of_block ob6 2).2; have u6 := lt_of_block ob6; simp at u2; have HD6 := Lib.hid (HD5.out.push hp6); have HK6 := Lib.hid (show K2 w _ _ from Below.setCell (below_pushE HK5a.out HD5.out.edg hp6 HS5.out) (p := ⟨w5.heap.size, 2, none⟩) HD5.out.obB (.slice a6 n6 c6)); clear hp6 ob6))
  have HIN2 := Lib.hid (show Inside ta.length te by rw [← HN.out]; exact HIN.out)
  have HTP := Lib.hid (show TrPtr _ (w.heap.size + 2) w.heap.size ⟨(st : Nat), ta, te⟩ _ vn from
    ⟨(HPT.out _ HK6.out).box, (HPT.out _ HK6.out).acc.mono (by have := HBB.out; omega), (HPT.out _ HK6.out).edges.mono (by have := HBB.out; omega)⟩)
  clear x0 x1 x2 l0 HKA HL1 HSZ HNEW HLN HD5 HK5 HK5a HS5 HNA y0 y1 y2 HK0
  refine (addEdges ⟨(st : Nat), ta, te⟩ _ vn w.heap.size 1 w5.heap.size (w.heap.size + 2) 0 _ _ (true :: ta) _ _ HTP.out (by omega) HD6.out HIN2.out (by show ta.length ≤ 1000; rw [← HN.out]; omega) (by show te.length ≤ 1000; omega) (by simp) (by omega)).mono ?_
  rintro e w7 ⟨rfl, vn7, hb7, hbel7⟩
  have HB7 := Lib.hid (show BldT w7 (w.heap.size + 2) w5.heap.size 0 (.slice a5 n5 c5) vn7 (true :: ta) (([⟨0, (st : Int) + 1, ⟨#[]⟩, ⟨#[]⟩⟩] ++ te.map (shiftE 1)) ++ endsTo 1 0 ta 0) from by rw [show endsTo 1 0 ta 0 = [] from rfl, List.append_nil]; exact hb7)
  have HK7 := Lib.hid (show K2 w #[.int .i64 (st : Nat), .slice (some ⟨ba, oa, none⟩) n ca, vn] w7 from Below.trans HK6.out hbel7)
  obtain ⟨a7, n7, c7, rfl, -⟩ := hb7.edg.shape'
  obtain ⟨Z, hZ⟩ : ∃ Z, Z = w5.heap.size := ⟨_, rfl⟩
  have HZL := Lib.hid (show w.heap.size + 2 ≤ Z by rw [hZ]; exact hb7.obB)
  clear hb7 hbel7 HD6 HK6 HTP u2 u5 u6 l5
  rw [← hZ] at HB7 ⊢
  clear hZ
  go_wp2_with fail
  go_loopw [5] (fun v5 wr => ∃ (k : Nat) (vx : Value), k ≤ n ∧ v5 = .int .i64 k ∧ BldT wr (w.heap.size + 2) Z 0 (.slice a5 n5 c5) vx (true :: ta) (([⟨0, (st : Int) + 1, ⟨#[]⟩, ⟨#[]⟩⟩] ++ te.map (shiftE 1)) ++ endsTo 1 0 ta k) ∧ K2 w #[.int .i64 (st : Nat), .slice (some ⟨ba, oa, none⟩) n ca, vn] wr) (fun v5 _ => n - (intOf v5).toNat)
  case atStart => exact ⟨0, _, Nat.zero_le _, rfl, HB7.out, HK7.out⟩
  case round =>
    obtain ⟨k, vx, hk, rfl, hT, hK⟩ := hrel
    obtain ⟨an, nn, cn, rfl, HNN⟩ := hT.edg.shape'
    have HT := Lib.hid hT
    have HK := Lib.hid hK
    obtain ⟨x0, x1, x2⟩ := K2.boxc hK
    have l0 : w.heap.size < wr.heap.size := by have := K2.size hK; omega
    have l1 : ba < wr.heap.size := by have := HBL.out; have := HBB.out; omega
    have hsz := K2.size hK
    have b2 := (cell_of_block hT.at_ 2).1
    simp at b2
    have b5 := (cell_of_block hT.at_ 2).2
    have b6 := hT.lt
    clear HB7 HK7
    by_cases hlt : k < n
    · have e1 := HA.out _ (K2.base hK) k hlt
      obtain ⟨b, hb⟩ : ∃ b, b = ta.getD k false := ⟨_, rfl⟩
      rw [← hb] at e1
      have HBV := Lib.hid hb
      clear hb hT hK
      cases b with
      | true =>
        have HEE := Lib.hid (show endsTo 1 0 ta (k + 1) = endsTo 1 0 ta k ++ [⟨(k : Int) + 1, 0, ⟨#[]⟩, ⟨#[]⟩⟩] from endsTo_yes 1 0 HBV.out.symm)
        have hwk : IntKind.i64.wrap ((k : Int) + 1) = (k : Int) + 1 := by rw [IntKind.wrap_i64]; omega
        have HLE := Lib.hid (show (([(⟨0, (st : Int) + 1, ⟨#[]⟩, ⟨#[]⟩⟩ : E)] ++ te.map (shiftE 1)) ++ endsTo 1 0 ta k).length ≤ 100000000 by rw [List.length_append, List.length_append, List.length_map]; have := endsTo_length 1 0 ta k; simp; omega)
        have HSW := Lib.hid hsz
        go_wp2_with (at_builtin; refine wpList_pushE rfl _ _ rfl (w.heap.size + 2) (.slice an nn cn) _ (⟨(k : Int) + 1, 0, ⟨#[]⟩, ⟨#[]⟩⟩ : E) HT.out.edg HSW.out HLE.out rfl wr.heap.size rfl rfl ?_; intro v6 w6 hp6; obtain ⟨a6, n6, c6, rfl, -⟩ := hp6.lst.shape'; have ob6 := HT.out.obE hp6; have u2 := (cell_of_block ob6 2).1; have u5 := (cell_of_block ob6 2).2; have u6 := lt_of_block ob6; simp at u2; have HD6 := Lib.hid (HT.out.push hp6); have HK6 := Lib.hid (show K2 w _ _ from Below.setCell (below_pushE HK.out HT.out.edg hp6 HSW.out) (p := ⟨Z, 2, none⟩) HT.out.obB (.slice a6 n6 c6)); clear hp6 ob6)
        go_roundw
        case rel => exact ⟨k + 1, _, by omega, by go_num, by rw [HEE.out, ← List.append_assoc]; exact HD6.out, HK6.out⟩
        case measure => simp [intOf]; omega
      | false =>
        have HEE := Lib.hid (show endsTo 1 0 ta (k + 1) = endsTo 1 0 ta k from endsTo_no 1 0 HBV.out.symm)
        have hwk : IntKind.i64.wrap ((k : Int) + 1) = (k : Int) + 1 := by rw [IntKind.wrap_i64]; omega
        go_wp2
        go_roundw
        case rel => exact ⟨k + 1, _, by omega, by go_num, by rw [HEE.out]; exact HT.out, HK.out⟩
        case measure => simp [intOf]; omega
    · obtain rfl : n = k := by omega
      have HNF := Lib.hid (show repN ⟨(st : Nat), ta, te⟩ = ([⟨0, (st : Int) + 1, ⟨#[]⟩, ⟨#[]⟩⟩] ++ te.map (shiftE 1)) ++ endsTo 1 0 ta n by rw [HN.out]; rfl)
      have HBT := Lib.hid (show BuiltT wr (w.heap.size + 2) (.slice a5 n5 c5) (.slice an nn cn) (repA ⟨(st : Nat), ta, te⟩) (repN ⟨(st : Nat), ta, te⟩) from
        ⟨HT.out.acc, by rw [HNF.out]; exact HT.out.edg, repN_fits HFT.out, by
          rw [HNF.out, List.length_append, List.length_append, List.length_map]; have := endsTo_length 1 0 ta n; simp; omega⟩)
      have HL1 := Lib.hid (show (repA ⟨(st : Nat), ta, te⟩).length ≤ 100000 by show (true :: ta).length ≤ 100000; rw [List.length_cons, ← HN.out]; omega)
      have HL2 := Lib.hid (show (repN ⟨(st : Nat), ta, te⟩).length ≤ 100000 by rw [HNF.out, List.length_append, List.length_append, List.length_map]; have := endsTo_length 1 0 ta n; simp; omega)
      have b0 := (cell_of_block hT.at_ 0).1
      have b1 := (cell_of_block hT.at_ 1).1
      simp at b0 b1
      clear hT hK hk hlt
      go_wp2_with fail
      refine (told 0 _ _ (repA ⟨(st : Nat), ta, te⟩) (repN ⟨(st : Nat), ta, te⟩) wr _ HBT.out HL1.out HL2.out).mono ?_
      rintro e w8 ⟨hb8, hor⟩
      have HK8 := Lib.hid (K2.step HK.out hb8)
      have HB8 := Lib.hid (show BuiltT w8 (w.heap.size + 2) (.slice a5 n5 c5) (.slice an nn cn) (repA ⟨(st : Nat), ta, te⟩) (repN ⟨(st : Nat), ta, te⟩) from ⟨HBT.out.acc.below hb8, HBT.out.edg.below hb8, HBT.out.fits, HBT.out.short⟩)
      obtain ⟨r0, r1, r2, s0, s1, s2⟩ := K2.cells HK8.out
      have hl := K2.size HK8.out
      clear hb8 b0 b1 b2 b5 b6 x0 x1 x2 l0 l1 hsz
      rcases hor with ⟨hf, rfl⟩ | ⟨hf, rfl⟩
      · have HF := Lib.hid hf
        clear hf
        go_wp2
        obtain ⟨g0, g1, g2⟩ := put3_cells (a := .int .i64 0) (b := .slice a5 n5 c5) (c := .slice an nn cn) (K2.res HK8.out)
        refine bodyPost_ret (v := .tuple #[.agg #[.int .i64 0, .slice a5 n5 c5, .slice an nn cn], .int .i64 0]) (by simp [results, Try.results23, go_sem, g0, g1, g2]) rfl ⟨put3_below (K2.base HK8.out) (by omega), .inl ⟨HF.out, _, _, rfl, BuiltT.mono (BuiltT.put3 HB8.out (by omega)) (by omega)⟩⟩
      · have HF := Lib.hid hf
        clear hf
        go_wp2
        obtain ⟨g0, g1, g2⟩ := put3_cells (a := .int .i64 0) (b := .slice none 0 0) (c := .slice none 0 0) (K2.res HK8.out)
        refine bodyPost_ret (v := .tuple #[.agg #[.int .i64 0, .slice none 0 0, .slice none 0 0], .int .i64 3]) (by simp [results, Try.results23, go_sem, g0, g1, g2]) rfl ⟨put3_below (K2.base HK8.out) (by omega), .inr ⟨HF.out, rfl⟩⟩
end Go.Proofs.Ytjoiaenkmmmmpaa.RepSpec
