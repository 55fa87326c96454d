
/- What the model answers that is asked for the first list that two relations do not share.
   Conditions: the relations are read as XMem's text says. -/
import Derived.Test.YtjplmmokbkkclaaFM19
import Derived.Test.YtjplmmokbkkclaaFM20
import Derived.Test.YtjplmmokbkkclaaFM23
import Derived.Test.YtjplmmokbkkclaaFM24
import Derived.Deep.RegionWith
import Derived.Test.YtjplmmokbkkclaaFM4
import Derived.Lib.SmallJoins
import Derived.Deep.Matrix
import Derived.Deep.Grids
namespace Go.Proofs.Ytjplmmokbkkclaa.UnlikeS
set_option linter.unusedVariables false
set_option linter.unusedSimpArgs false
set_option linter.ambiguousOpen false
set_option maxRecDepth 100000
open Go.RowKit Mem Copy Rel Valid Heap Columns Bld ToL TidyMath TidyClass TidyAuto TidyRight SpecFiner SpecRight PairMath First FirstTidy FirstI FirstW FirstK FirstS SpecTidied EqS UnlikeI ResKit Alike EqI EmptyK TakenRight Strs ColMath TupMath SpecTuple SpecWords MarkRow Found

theorem firstPP_ok {g : Bool → Bool → Bool} {l m : L} {u : List Nat} (h : firstPP g l m = some u) : g (Tk l u) (Tk m u) = true := by
  unfold firstPP at h
  split at h
  · rename_i hex
    have := Option.some.inj h
    rw [← this]
    exact hex.choose_spec.ok
  · cases h
/-- A built relation in a block is a relation behind a pointer. -/
theorem built_ptr {W : World} {B X : Nat} {k st : Int} {va vn : Value} {A : List Bool} {N : List (List Int)} (hb : Built W B va vn A N) (hat : W.heap[X]? = some (.cells #[.int .i64 k, .int .i64 st, va, vn] 30 (0, 0))) : RelPtr W W.heap.size X ⟨k, st, A, N⟩ := by
  obtain ⟨va', vn', ev, hva, hvn⟩ := hb.reads W.heap.size (Nat.le_refl _) 0 0
  simp at ev
  obtain ⟨rfl, rfl⟩ := ev
  have y0 := cells_get hat 0
  have y1 := cells_get hat 1
  have y2 := cells_get hat 2
  have y3 := cells_get hat 3
  simp at y0 y1 y2 y3
  exact ⟨_, _, y0, y1, y2, y3, hva, hvn⟩

set_option maxHeartbeats 8000000 in
theorem specUnlike (v u : Value) (r s : R) (w : World) (B : Nat) (h : RelAt w B v r) (h' : RelAt w B u s) (hB : B ≤ w.heap.size) :
    Calls Try.prog 9 #[v, u] w fun e w' => ∃ x, e = .returned (.tuple #[x, .int .i64 (unlikeC r s)]) ∧ FreshS w.heap.size w' x (unlikeL r s) ∧ Below w.heap.size w w' := by
  have hR := h
  have hS := h'
  obtain ⟨va, vn, rfl, ha, hn⟩ := h
  obtain ⟨aa1, ba, oa, ca1, rfl, -, -, -⟩ := ha
  obtain ⟨-, ⟨ab1, bb, ob, cb1, rfl, -, -, -⟩, -⟩ := hn
  obtain ⟨va, vn, rfl, ha, hn⟩ := h'
  obtain ⟨aa2, ba, oa, ca2, rfl, -, -, -⟩ := ha
  obtain ⟨-, ⟨ab2, bb, ob, cb2, rfl, -, -, -⟩, -⟩ := hn
  obtain ⟨c, hc⟩ : ∃ c : Array Value, c = #[.int .i64 r.tapes, .int .i64 r.start, .slice aa1 r.accept.length ca1, .slice ab1 r.next.length cb1] := ⟨_, rfl⟩
  obtain ⟨d, hd⟩ : ∃ d : Array Value, d = #[.int .i64 s.tapes, .int .i64 s.start, .slice aa2 s.accept.length ca2, .slice ab2 s.next.length cb2] := ⟨_, rfl⟩
  have HP1 := Lib.hid (fun W (hk : K2 w c d W) => box_ptr hR hB (K2.base hk) (by rw [← hc]; exact K2.box1 hk))
  have HP2 := Lib.hid (fun W (hk : K2 w c d W) => box_ptr hS hB (K2.base hk) (by rw [← hd]; exact K2.box2 hk))
  have HTW := Lib.hid (fun W (hk : K2 w c d W) => twoS r s w.heap.size (w.heap.size + 1) W W.heap.size (HP1.out W hk) (HP2.out W hk))
  have HTI := Lib.hid (fun (h0 : alikeC r s = 0) => (show ((toL r).Ok ∧ relOf (toL r) = r ∧ (toL r).acc.length ≤ 150) ∧ ((toL s).Ok ∧ relOf (toL s) = s ∧ (toL s).acc.length ≤ 150) ∧ (toL r).k = (toL s).k from by
    obtain ⟨h1, h2, h3⟩ := alike_of h0
    have e1 := okL' h1
    have e2 := okL' h2
    exact ⟨⟨e1.1.2, e1.1.1, e1.2⟩, ⟨e2.1.2, e2.1.1, e2.2⟩, by show r.tapes.toNat = s.tapes.toNat; rw [h3]⟩))
  have HT1 := Lib.hid (fun (h0 : alikeC r s = 0) W (hk : K2 w c d W) => tidied (toL r) (HTI.out h0).1.1 w.heap.size W W.heap.size (by rw [(HTI.out h0).1.2.1]; exact HP1.out W hk) (Nat.le_refl _) (by have := K2.size hk; omega) (by have := (HTI.out h0).1.2.2; omega))
  have HT2 := Lib.hid (fun (h0 : alikeC r s = 0) W (hk : K2 w c d W) => tidied (toL s) (HTI.out h0).2.1.1 (w.heap.size + 1) W W.heap.size (by rw [(HTI.out h0).2.1.2.1]; exact HP2.out W hk) (Nat.le_refl _) (by have := K2.size hk; omega) (by have := (HTI.out h0).2.1.2.2; omega))
  have HV0 := Lib.hid (show alikeC r s ≠ 0 → unlikeC r s = alikeC r s ∧ unlikeL r s = [] from fun h0 => by unfold unlikeC unlikeL; rw [if_neg h0, if_neg h0]; exact ⟨rfl, rfl⟩)
  have HV1 := Lib.hid (show alikeC r s = 0 → unlikeC r s = foundC (firstPP ne2 (toL r) (toL s)) ∧ unlikeL r s = foundL (toL r).k (firstPP ne2 (toL r) (toL s)) from fun h0 => by unfold unlikeC unlikeL; rw [if_pos h0, if_pos h0]; exact ⟨rfl, rfl⟩)
  have HPL := Lib.hid (fun (h0 : alikeC r s = 0) => (show (pairL DifferB.dif (tidL (toL r)) (tidL (toL s))).acc.length = (tidyAcc (toL r)).length * (tidyAcc (toL s)).length ∧ (tidyAcc (toL r)).length * (tidyAcc (toL s)).length ≤ 2000000 from by
    obtain ⟨h1, h2, h3⟩ := HTI.out h0
    refine ⟨pairL_len DifferB.dif (tidL (toL r)) (tidL (toL s)), ?_⟩
    have e1 : (tidyAcc (toL r)).length ≤ 1201 := by have := tidyAcc_len h1.1; have := h1.2.2; omega
    have e2 : (tidyAcc (toL s)).length ≤ 1201 := by have := tidyAcc_len h2.1; have := h2.2.2; omega
    exact Nat.le_trans (Nat.mul_le_mul e1 e2) (by decide)))
  have HP3 := Lib.hid (fun (h0 : alikeC r s = 0) W X Y (h1 : RelPtr W W.heap.size X ⟨(toL r).k, 0, tidyAcc (toL r), tidyNext (toL r)⟩) (h2 : RelPtr W W.heap.size Y ⟨(toL s).k, 0, tidyAcc (toL s), tidyNext (toL s)⟩) (hX : X < W.heap.size) (hY : Y < W.heap.size) => DifferB.differ (tidL (toL r)) (tidL (toL s)) (tidL_ok (HTI.out h0).1.1) (tidL_ok (HTI.out h0).2.1.1) (HTI.out h0).2.2 X Y W W.heap.size (by rw [tidL_rel]; exact h1) (by rw [tidL_rel]; exact h2) (Nat.le_refl _) hX hY (HPL.out h0).2)
  have HF3 := Lib.hid (fun (h0 : alikeC r s = 0) W X (h1 : RelPtr W W.heap.size X (relOf (pairL DifferB.dif (tidL (toL r)) (tidL (toL s))))) (hX : X < W.heap.size) => show Calls Try.prog 30 #[.pointer (some ⟨X, 0, none⟩)] W fun e w' => ∃ x, e = .returned (.tuple #[x, .int .i64 (foundC (firstPP ne2 (toL r) (toL s)))]) ∧ FreshS W.heap.size w' x (foundL (toL r).k (firstPP ne2 (toL r) (toL s))) ∧ Below W.heap.size W w' from by
    obtain ⟨e1, e2, e3⟩ := HTI.out h0
    have hfx : firstX (pairL DifferB.dif (tidL (toL r)) (tidL (toL s))) = firstPP ne2 (toL r) (toL s) := firstX_congr (l := toL r) (m := toL s) rfl (fun p hp => by
      rw [takes_pair DifferB.dif e1.1 e2.1 e3 p hp]
      cases Tk (toL r) p <;> cases Tk (toL s) p <;> rfl)
    have hf := Found.found (pairL DifferB.dif (tidL (toL r)) (tidL (toL s))) (pairL_ok DifferB.dif (tidL_ok e1.1) (tidL_ok e2.1) e3) (fun c hc hlow => by
      rw [hfx] at hc
      have hlow' : Low (wide (toL r).k) c := hlow
      have hg := firstPP_ok hc
      show rightB (toL r).k (c.map Int.ofNat) = true
      cases ha : Tk (toL r) c with
      | true => exact taken_right e1.1 hlow' ha
      | false =>
        rw [ha] at hg
        have hb : Tk (toL s) c = true := by
          cases hb : Tk (toL s) c with
          | true => rfl
          | false => rw [hb] at hg; cases hg
        rw [e3]
        exact taken_right e2.1 (by rw [← e3]; exact hlow') hb) X W W.heap.size h1 (Nat.le_refl _) hX (by rw [(HPL.out h0).1]; exact Nat.le_trans (HPL.out h0).2 (by decide))
    rw [hfx] at hf
    exact hf)
  obtain ⟨AP, hAP⟩ : ∃ x, x = firstPP ne2 (toL r) (toL s) := ⟨_, rfl⟩
  obtain ⟨kq, hkq⟩ : ∃ x, x = (toL r).k := ⟨_, rfl⟩
  have HF4 := Lib.hid (show ∀ (h0 : alikeC r s = 0) W X (h1 : RelPtr W W.heap.size X (relOf (pairL DifferB.dif (tidL (toL r)) (tidL (toL s))))) (hX : X < W.heap.size), Calls Try.prog 30 #[.pointer (some ⟨X, 0, none⟩)] W fun e w' => ∃ x, e = .returned (.tuple #[x, .int .i64 (foundC AP)]) ∧ FreshS W.heap.size w' x (foundL kq AP) ∧ Below W.heap.size W w' from by
    rw [hAP, hkq]; exact HF3.out)
  have HV2 := Lib.hid (show alikeC r s = 0 → unlikeC r s = foundC AP ∧ unlikeL r s = foundL kq AP from by rw [hAP, hkq]; exact HV1.out)
  clear HF3 HV1
  have HF3 := HF4
  have HV1 := HV2
  clear HF4 HV2 hAP hkq HPL
  obtain ⟨PK, hPK⟩ : ∃ x : Nat, x = (pairL DifferB.dif (tidL (toL r)) (tidL (toL s))).k := ⟨_, rfl⟩
  obtain ⟨PS, hPS⟩ : ∃ x : Nat, x = (pairL DifferB.dif (tidL (toL r)) (tidL (toL s))).start := ⟨_, rfl⟩
  obtain ⟨PA, hPA⟩ : ∃ x, x = (pairL DifferB.dif (tidL (toL r)) (tidL (toL s))).acc := ⟨_, rfl⟩
  obtain ⟨PN, hPN⟩ : ∃ x, x = (relOf (pairL DifferB.dif (tidL (toL r)) (tidL (toL s)))).next := ⟨_, rfl⟩
  have HJR := Lib.hid (show relOf (pairL DifferB.dif (tidL (toL r)) (tidL (toL s))) = ⟨PK, PS, PA, PN⟩ from by rw [hPK, hPS, hPA, hPN]; rfl)
  have HP4 := Lib.hid (show ∀ (h0 : alikeC r s = 0) (W : World) X Y (h1 : RelPtr W W.heap.size X ⟨(toL r).k, 0, tidyAcc (toL r), tidyNext (toL r)⟩) (h2 : RelPtr W W.heap.size Y ⟨(toL s).k, 0, tidyAcc (toL s), tidyNext (toL s)⟩) (hX : X < W.heap.size) (hY : Y < W.heap.size), Calls Try.prog 29 #[.pointer (some ⟨X, 0, none⟩), .pointer (some ⟨Y, 0, none⟩)] W fun e w' => ∃ va vn, e = .returned (.agg #[.int .i64 PK, .int .i64 PS, va, vn]) ∧ Built w' W.heap.size va vn PA PN ∧ Below W.heap.size W w' from fun h0 W X Y h1 h2 hX hY => by
    rw [hPK, hPS, hPA, hPN]
    exact HP3.out h0 W X Y h1 h2 hX hY)
  rw [HJR.out] at HF3
  clear HJR HP3 hPK hPS hPA hPN
  obtain ⟨V, hV⟩ : ∃ x, x = unlikeC r s := ⟨_, rfl⟩
  obtain ⟨VL, hVL⟩ : ∃ x, x = unlikeL r s := ⟨_, rfl⟩
  obtain ⟨C, hC⟩ : ∃ x, x = alikeC r s := ⟨_, rfl⟩
  rw [← hC] at HTW HT1 HT2 HV0 HV1 HF3 HP4
  rw [← hV, ← hVL] at HV0 HV1
  rw [← hV, ← hVL]
  obtain ⟨k1, hk1⟩ : ∃ x : Int, x = (toL r).k := ⟨_, rfl⟩
  obtain ⟨k2, hk2⟩ : ∃ x : Int, x = (toL s).k := ⟨_, rfl⟩
  obtain ⟨A1, hA1⟩ : ∃ x, x = tidyAcc (toL r) := ⟨_, rfl⟩
  obtain ⟨A2, hA2⟩ : ∃ x, x = tidyAcc (toL s) := ⟨_, rfl⟩
  obtain ⟨N1, hN1⟩ : ∃ x, x = tidyNext (toL r) := ⟨_, rfl⟩
  obtain ⟨N2, hN2⟩ : ∃ x, x = tidyNext (toL s) := ⟨_, rfl⟩
  rw [← hk1, ← hA1, ← hN1] at HT1
  rw [← hk2, ← hA2, ← hN2] at HT2
  rw [← hk1, ← hk2, ← hA1, ← hA2, ← hN1, ← hN2] at HP4
  clear hV hVL hC hk1 hk2 hA1 hA2 hN1 hN2 hR hS HTI HP1 HP2 hB
  have HK0 := Lib.hid (show K2 w c d ((w.alloc (.cells c 30)).alloc (.cells d 30)) from Below.refl _ _)
  have HC0 := Lib.hid (HTW.out _ HK0.out)
  rw [hc, hd] at HC0
  go_enter Try.func9, Try.ntmps9
  go_wp2_with fail
  refine HC0.out.mono ?_
  rw [← hc, ← hd]
  rintro e w3 ⟨rfl, q, rfl⟩
  have HK3 := Lib.hid (show K2 w c d (((w.alloc (.cells c 30)).alloc (.cells d 30)).drewN q) from below_drewN (Below.refl _ _) q)
  generalize ((w.alloc (.cells c 30)).alloc (.cells d 30)).drewN q = w3 at HK3 ⊢
  clear HC0 HK0 HTW hc hd
  by_cases h0 : C = 0
  · have HC1 := Lib.hid (HT1.out h0 w3 HK3.out)
    have HCT := Lib.hid (HT2.out h0)
    have HVE := Lib.hid (HV1.out h0)
    have HPP := Lib.hid (HP4.out h0)
    have HFF := Lib.hid (HF3.out h0)
    subst h0
    clear HT1 HT2 HV0 HV1 HP4 HF3
    go_wp2_with fail
    refine HC1.out.mono ?_
    rintro e w4 ⟨va, vn, rfl, hbu, hb4⟩
    have HK4 := Lib.hid (show K2 w c d w4 from Below.trans HK3.out (hb4.mono (K2.size HK3.out)))
    have HBU4 := Lib.hid hbu
    obtain ⟨a3, n3, c3, rfl, -⟩ := hbu.acc.shape'
    obtain ⟨items3, -, hnx3, -⟩ := hbu.rows
    obtain ⟨b3, m3, d3, rfl, -⟩ := hnx3.shape'
    have HK5 := Lib.hid (show K2 w c d (w4.alloc (.cells #[.int .i64 k1, .int .i64 0, .slice a3 n3 c3, .slice b3 m3 d3] 30)) from Below.alloc HK4.out (K2.size HK4.out) _)
    have HC2 := Lib.hid (HCT.out _ HK5.out)
    clear hbu hb4 hnx3 HC1 HCT
    go_wp2_with fail
    refine HC2.out.mono ?_
    rintro e w5 ⟨va, vn, rfl, hbu, hb5⟩
    have HK6 := Lib.hid (show K2 w c d w5 from Below.trans HK5.out (hb5.mono (K2.size HK5.out)))
    have hs5 := hb5.size
    rw [size_alloc'] at hbu hb5 hs5
    have HBU5 := Lib.hid hbu
    have HLB := Lib.hid (show w5.heap[w4.heap.size]? = some (.cells #[.int .i64 k1, .int .i64 0, .slice a3 n3 c3, .slice b3 m3 d3] 30 (0, 0)) from (hb5.block _ (Nat.lt_succ_self _)).trans (heap_alloc_new _ _))
    have HB45 := Lib.hid (show Below w4.heap.size w4 w5 from ((Below.refl _ _).alloc (Nat.le_refl _) _).trans (hb5.mono (Nat.le_succ _)))
    have HS45 := Lib.hid (show w4.heap.size < w5.heap.size from hs5)
    obtain ⟨a5, n5, c5, rfl, -⟩ := hbu.acc.shape'
    obtain ⟨items5, -, hnx5, -⟩ := hbu.rows
    obtain ⟨b5, m5, d5, rfl, -⟩ := hnx5.shape'
    have HB5A := Lib.hid (show Below w5.heap.size w5 (w5.alloc (.cells #[.int .i64 k2, .int .i64 0, .slice a5 n5 c5, .slice b5 m5 d5] 30)) from (Below.refl _ _).alloc (Nat.le_refl _) _)
    have HC3 := Lib.hid (HPP.out (w5.alloc (.cells #[.int .i64 k2, .int .i64 0, .slice a5 n5 c5, .slice b5 m5 d5] 30)) w4.heap.size w5.heap.size (built_ptr (HBU4.out.below (HB45.out.trans (HB5A.out.mono HB45.out.size))) ((Below.heap_alloc _ _ _ HS45.out).trans HLB.out)) (built_ptr (HBU5.out.below HB5A.out) (heap_alloc_new _ _)) (by rw [size_alloc']; have := HS45.out; omega) (by rw [size_alloc']; exact Nat.lt_succ_self _))
    have HKA := Lib.hid (show K2 w c d (w5.alloc (.cells #[.int .i64 k2, .int .i64 0, .slice a5 n5 c5, .slice b5 m5 d5] 30)) from Below.alloc HK6.out (K2.size HK6.out) _)
    clear hbu hb5 hs5 hnx5 HC2 HPP
    go_wp2_with fail
    refine HC3.out.mono ?_
    rintro e w7 ⟨va, vn, rfl, hbu, hb7⟩
    have HK7 := Lib.hid (show K2 w c d w7 from Below.trans HKA.out (hb7.mono (K2.size HKA.out)))
    have HBU7 := Lib.hid hbu
    obtain ⟨a7, n7, c7, rfl, -⟩ := hbu.acc.shape'
    obtain ⟨items7, -, hnx7, -⟩ := hbu.rows
    obtain ⟨b7, m7, d7, rfl, -⟩ := hnx7.shape'
    have HC4 := Lib.hid (HFF.out (w7.alloc (.cells #[.int .i64 PK, .int .i64 PS, .slice a7 n7 c7, .slice b7 m7 d7] 30)) w7.heap.size (built_ptr (HBU7.out.below ((Below.refl _ _).alloc (Nat.le_refl _) _)) (heap_alloc_new _ _)) (by rw [size_alloc']; exact Nat.lt_succ_self _))
    have HK8 := Lib.hid (show K2 w c d (w7.alloc (.cells #[.int .i64 PK, .int .i64 PS, .slice a7 n7 c7, .slice b7 m7 d7] 30)) from Below.alloc HK7.out (K2.size HK7.out) _)
    clear hbu hb7 hnx7 HC3 HFF
    go_wp2_with fail
    refine HC4.out.mono ?_
    rintro e w9 ⟨x9, rfl, hfr, hb9⟩
    have HK9 := Lib.hid (show K2 w c d w9 from Below.trans HK8.out (hb9.mono (K2.size HK8.out)))
    have HFR := Lib.hid (FreshS.low hfr (show w.heap.size ≤ _ from (K2.base HK8.out).size))
    obtain ⟨rfl, rfl⟩ := HVE.out
    obtain ⟨a9, c9, rfl, -⟩ := hfr
    clear hb9 HC4 HVE
    go_wp2_with fail
    go_ret2
    exact ⟨_, rfl, HFR.out, K2.base HK9.out⟩
  · obtain ⟨rfl, rfl⟩ := HV0.out h0
    clear HT1 HT2 HV0 HV1 HP4 HF3
    have hcne : (V != 0) = true := by simpa using h0
    go_wp2_with fail
    go_ret2
    exact ⟨_, rfl, freshS_none _ _ _ _, (K2.base HK3.out).alloc (K2.base HK3.out).size _⟩
end Go.Proofs.Ytjplmmokbkkclaa.UnlikeS
/- What the program answers that is asked whether a relation has no tuples.
   Conditions: the relation is read as XMem's text says. -/
namespace Go.Proofs.Ytjplmmokbkkclaa.EmptyI
set_option linter.unusedVariables false
set_option linter.unusedSimpArgs false
set_option linter.ambiguousOpen false
set_option maxRecDepth 100000
open Go.RowKit Mem Copy Rel Valid Heap Columns Bld ToL TidyMath TidyClass TidyAuto TidyRight SpecFiner SpecRight PairMath First FirstTidy FirstI FirstK Alike EqI EmptyK

set_option maxHeartbeats 4000000 in
theorem noTuples (k : Nat) (h1 : 1 ≤ k) (h3 : k ≤ 3) (w : World) :
    Calls Try.prog 42 #[.int .i64 k] w fun e w' => ∃ va vn, e = .returned (.agg #[.int .i64 k, .int .i64 0, va, vn]) ∧ Built w' w.heap.size va vn [false] [ofN (List.replicate (wide k) 0)] ∧ Below w.heap.size w w' := by
  have HCN := Lib.hid (fun W => countAny (k : Int) (by omega) (by omega) W)
  rw [wide_eq h1 h3] at HCN
  have hwc := wide_cases h1 h3
  obtain ⟨n, hn⟩ : ∃ n, n = wide k := ⟨_, rfl⟩
  rw [← hn] at HCN hwc ⊢
  have hn26 : n ≤ 26 := by omega
  have hmk := run_make_row' (P := Try.prog) 52 2 (.int .i64 0) 8 Try.underlying52 info2 rfl .i64 .i64 n (by omega) (by omega)
  have HB := Lib.hid (fun (c : Array Value) => show Built ((((w.alloc (.cells c 30)).alloc (.cells (madeCells #[Value.int .i64 0] n) 2)).alloc (.cells #[.bool false] 4)).alloc (.cells #[.slice (some ⟨w.heap.size + 1, 0, none⟩) n n] 52)) (w.heap.size + 1) (.slice (some ⟨w.heap.size + 1 + 1, 0, none⟩) 1 1) (.slice (some ⟨w.heap.size + 1 + 1 + 1, 0, none⟩) 1 1) [false] [ofN (List.replicate n 0)] from by
    have s0 : (w.alloc (.cells c 30)).heap.size = w.heap.size + 1 := by rw [size_alloc']
    have m1 := Heap.Lst.made (w.alloc (.cells c 30)) (w.heap.size + 1) 2 (.int .i64 0) n (by omega) (by unfold maxLen; omega)
    rw [s0] at m1
    have m2 := Heap.Lst.one ((w.alloc (.cells c 30)).alloc (.cells (madeCells #[Value.int .i64 0] n) 2)) (w.heap.size + 1) 4 (.bool false) (by rw [size_alloc']; omega)
    rw [size_alloc', s0] at m2
    have m3 := Heap.Lst.one (((w.alloc (.cells c 30)).alloc (.cells (madeCells #[Value.int .i64 0] n) 2)).alloc (.cells #[.bool false] 4)) (w.heap.size + 1) 52 (.slice (some ⟨w.heap.size + 1, 0, none⟩) n n) (by rw [size_alloc', size_alloc']; omega)
    rw [size_alloc', size_alloc', s0] at m3
    refine ⟨m2.alloc _, [(.slice (some ⟨w.heap.size + 1, 0, none⟩) n n, List.replicate n (.int .i64 0))], Own.add (Own.nil _ _ _) ((m1.alloc _).alloc _) (fun p hp => by cases hp), m3, ?_⟩
    simp [ofN])
  have HBL := Lib.hid (fun (c : Array Value) => show Below w.heap.size w ((((w.alloc (.cells c 30)).alloc (.cells (madeCells #[Value.int .i64 0] n) 2)).alloc (.cells #[.bool false] 4)).alloc (.cells #[.slice (some ⟨w.heap.size + 1, 0, none⟩) n n] 52)) from by
    have s0 : (w.alloc (.cells c 30)).heap.size = w.heap.size + 1 := by rw [size_alloc']
    have b0 : Below w.heap.size w (w.alloc (.cells c 30)) := (Below.refl _ _).alloc (Nat.le_refl _) _
    refine Below.alloc (Below.alloc (Below.alloc b0 ?_ _) ?_ _) ?_ _
    all_goals (first | omega | (simp only [size_alloc']; omega)))
  have HRES := Lib.hid (fun (c : Array Value) => show ((((w.alloc (.cells c 30)).alloc (.cells (madeCells #[Value.int .i64 0] n) 2)).alloc (.cells #[.bool false] 4)).alloc (.cells #[.slice (some ⟨w.heap.size + 1, 0, none⟩) n n] 52)).heap[w.heap.size]? = some (.cells c 30 (0, 0)) from by
    have s0 : (w.alloc (.cells c 30)).heap.size = w.heap.size + 1 := by rw [size_alloc']
    rw [Below.heap_alloc _ _ _ (by simp only [size_alloc']; omega), Below.heap_alloc _ _ _ (by simp only [size_alloc']; omega), Below.heap_alloc _ _ _ (by omega)]
    exact heap_alloc_new _ _)
  have HRES := Lib.hid (HRES.out #[Value.int .i64 0, .int .i64 0, .slice none 0 0, .slice none 0 0])
  clear hn hwc
  go_enter Try.func42, Try.ntmps42
  go_upto_region 2 with (go_at_call 55; refine (HCN.out _).mono ?_; rintro e w' ⟨rfl, rfl⟩)
  have r0 := cells_get HRES.out 0
  have r1 := cells_get HRES.out 1
  have r2 := cells_get HRES.out 2
  have r3 := cells_get HRES.out 3
  have f0 := cells_free HRES.out 0
  have f1 := cells_free HRES.out 1
  have f2 := cells_free HRES.out 2
  have f3 := cells_free HRES.out 3
  have hlS := lt_of_block HRES.out
  have p0 := cells_set HRES.out 0 (.int .i64 k)
  have p1 := cells_set p0 1 (.int .i64 0)
  have p2 := cells_set p1 2 (.slice (some ⟨w.heap.size + 1 + 1, 0, none⟩) 1 1)
  have p3 := cells_set p2 3 (.slice (some ⟨w.heap.size + 1 + 1 + 1, 0, none⟩) 1 1)
  simp at r0 r1 r2 r3 p3
  have g0 := cells_get p3 0
  have g1 := cells_get p3 1
  have g2 := cells_get p3 2
  have g3 := cells_get p3 3
  simp at g0 g1 g2 g3
  have HG := Lib.hid (And.intro g0 (And.intro g1 (And.intro g2 g3)))
  clear p0 p1 p2 p3 g0 g1 g2 g3
  go_wp2_with fail
  obtain ⟨g0, g1, g2, g3⟩ := HG.out
  refine bodyPost_ret (v := .agg #[.int .i64 k, .int .i64 0, .slice (some ⟨w.heap.size + 1 + 1, 0, none⟩) 1 1, .slice (some ⟨w.heap.size + 1 + 1 + 1, 0, none⟩) 1 1]) (by simp [results, Try.results42, go_sem, g0, g1, g2, g3]) rfl ⟨_, _, rfl, ?_, ?_⟩
  · exact (HB.out _).mono (Nat.le_succ _)
  · exact HBL.out _

def E1 (w : World) (c : Array Value) (W : World) : Prop := Below (w.heap.size + 1) (w.alloc (.cells c 30)) W
theorem E1.size {w W : World} {c : Array Value} (h : E1 w c W) : w.heap.size + 1 ≤ W.heap.size := by have := Below.size h; rwa [size_alloc'] at this
theorem E1.base {w W : World} {c : Array Value} (h : E1 w c W) : Below w.heap.size w W := ((Below.refl _ _).alloc (Nat.le_refl _) _).trans (Below.mono h (Nat.le_succ _))
theorem E1.box {w W : World} {c : Array Value} (h : E1 w c W) : W.heap[w.heap.size]? = some (.cells c 30 (0, 0)) := (Below.block h _ (Nat.lt_succ_self _)).trans (heap_alloc_new _ _)
theorem E1.go {w W W' : World} {c : Array Value} (h : E1 w c W) (hb : Below W.heap.size W W') : E1 w c W' := Below.trans h (hb.mono (E1.size h))
theorem E1.drew {w W : World} {c : Array Value} (h : E1 w c W) : E1 w c W.drew := below_drewN h 1

set_option maxHeartbeats 8000000 in
theorem emptyI (v : Value) (r : R) (w : World) (B : Nat) (h : RelAt w B v r) (hB : B ≤ w.heap.size) :
    Calls Try.prog 20 #[v] w fun e w' => e = .returned (.tuple #[.bool (emptyV r), .int .i64 (emptyC r)]) ∧ Below w.heap.size w w' := by
  have HV1 := Lib.hid (fun W (hb : Below w.heap.size w W) => ValidImpl.implValid v r W B (h.below hb hB) (Nat.le_trans hB hb.size))
  have HE0 := Lib.hid (show okB r = false → emptyV r = false ∧ emptyC r = 1 from fun h => by simp [emptyV, emptyC, h])
  have HE1 := Lib.hid (show okB r = true → emptyC r = 0 from fun h => by simp [emptyC, h])
  have HEQ := Lib.hid (fun (h0 : okB r = true) (k : Nat) (hk : r.tapes = (k : Int)) (h1 : 1 ≤ k) (h3 : k ≤ 3) W u (hb : Below w.heap.size w W) (hu : RelAt W W.heap.size u (relOf (noL k))) => show Calls Try.prog 22 #[v, u] W fun e w' => e = .returned (.tuple #[.bool (emptyV r), .int .i64 0]) ∧ Below W.heap.size W w' from by
    have e := eq_no h0 hk h1 h3
    have := areEqualI v u r (relOf (noL k)) W W.heap.size ((h.below hb hB).mono (Nat.le_trans hB hb.size)) hu (Nat.le_refl _)
    rwa [e.1, e.2] at this)
  have HKK := Lib.hid (fun (h0 : okB r = true) => r_k h0)
  obtain ⟨V, hV⟩ : ∃ x, x = emptyV r := ⟨_, rfl⟩
  obtain ⟨C, hC⟩ : ∃ x, x = emptyC r := ⟨_, rfl⟩
  obtain ⟨q, hq⟩ : ∃ x, x = okB r := ⟨_, rfl⟩
  rw [← hV] at HE0 HEQ
  rw [← hC] at HE0 HE1
  rw [← hq] at HV1 HE0 HE1 HEQ HKK
  rw [← hV, ← hC]
  clear hV hC hq
  obtain ⟨va, vn, rfl, ha, hn⟩ := h
  obtain ⟨aa1, ba, oa, ca1, rfl, -, -, -⟩ := ha
  obtain ⟨-, ⟨ab1, bb, ob, cb1, rfl, -, -, -⟩, -⟩ := hn
  obtain ⟨k1, hk⟩ : ∃ x, x = r.tapes := ⟨_, rfl⟩
  obtain ⟨st1, hst⟩ : ∃ x, x = r.start := ⟨_, rfl⟩
  obtain ⟨na1, hna⟩ : ∃ x, x = r.accept.length := ⟨_, rfl⟩
  obtain ⟨nb1, hnb⟩ : ∃ x, x = r.next.length := ⟨_, rfl⟩
  rw [← hk, ← hst, ← hna, ← hnb] at HV1 HEQ
  rw [← hk] at HKK
  rw [← hk, ← hst, ← hna, ← hnb]
  clear hk hst hna hnb
  have HC1 := Lib.hid (HV1.out (w.alloc (.cells #[.int .i64 k1, .int .i64 st1, .slice aa1 na1 ca1, .slice ab1 nb1 cb1] 30)) ((Below.refl _ _).alloc (Nat.le_refl _) _))
  clear HV1 hB
  go_enter Try.func20, Try.ntmps20
  go_wp2_with fail
  refine HC1.out.mono ?_
  rintro e w3 ⟨rfl, hb3⟩
  rw [size_alloc'] at hb3
  have HK3 := Lib.hid (show E1 w #[.int .i64 k1, .int .i64 st1, .slice aa1 na1 ca1, .slice ab1 nb1 cb1] w3 from hb3)
  clear hb3 HC1
  cases q with
  | false =>
    obtain ⟨rfl, rfl⟩ := HE0.out rfl
    clear HE0 HE1 HEQ HKK
    go_wp2_with fail
    go_ret2
    exact ⟨rfl, E1.base HK3.out⟩
  | true =>
    obtain rfl := HE1.out rfl
    obtain ⟨k, rfl, hk1, hk3, -⟩ := HKK.out rfl
    have HNT := Lib.hid (fun W => noTuples k hk1 hk3 W)
    have HEA := Lib.hid (HEQ.out rfl k rfl hk1 hk3)
    clear HE0 HE1 HEQ HKK
    have x0 := cells_get (E1.box HK3.out) 0
    have x1 := cells_get (E1.box HK3.out) 1
    have x2 := cells_get (E1.box HK3.out) 2
    have x3 := cells_get (E1.box HK3.out) 3
    simp at x0 x1 x2 x3
    have hl := E1.size HK3.out
    go_wp2_with fail
    go_region_with (first
      | (go_at_call 42; refine (HNT.out _).mono ?_; rintro e w4 ⟨va4, vn4, rfl, hbu, hb4⟩; have HK4 := Lib.hid (E1.go (E1.drew HK3.out) hb4); have HR4 := Lib.hid (hbu.reads w4.heap.size (Nat.le_refl _) (k : Int) 0); clear hbu hb4; clear x0 x1 x2 x3 hl; have x0 := cells_get (E1.box HK4.out) 0; have x1 := cells_get (E1.box HK4.out) 1; have x2 := cells_get (E1.box HK4.out) 2; have x3 := cells_get (E1.box HK4.out) 3; simp at x0 x1 x2 x3; have hl := E1.size HK4.out)
      | (go_at_call 22; refine (HEA.out _ _ (E1.base HK4.out) HR4.out).mono ?_; rintro e w5 ⟨rfl, hb5⟩; have HB5 := Lib.hid ((E1.base HK4.out).trans (hb5.mono (E1.base HK4.out).size)); clear hb5))
    all_goals go_wp2
    all_goals go_ret2
    all_goals exact ⟨rfl, HB5.out⟩
end Go.Proofs.Ytjplmmokbkkclaa.EmptyI
/- What the program answers that is asked for the first tuple of a relation.
   Conditions: the relation is read as XMem's text says. -/
namespace Go.Proofs.Ytjplmmokbkkclaa.TupleI
set_option linter.unusedVariables false
set_option linter.unusedSimpArgs false
set_option linter.ambiguousOpen false
set_option maxRecDepth 100000
open Go.RowKit Mem Copy Rel Valid Heap Columns Bld ToL TidyMath TidyClass TidyAuto TidyRight SpecFiner SpecRight PairMath First FirstTidy FirstI FirstW FirstK FirstS UnlikeI EmptyI Alike EqI EmptyK TakenRight Strs ColMath TupMath SpecTuple SpecWords MarkRow Found

noncomputable def tupleC (r : R) : Int := if okB r = true then foundC (firstX (tidL (toL r))) else 1
noncomputable def tupleL (r : R) : List ByteArray := if okB r = true then foundL (toL r).k (firstX (tidL (toL r))) else []
theorem tuple_no {r : R} {k : Nat} (h : okB r = true) (hk : r.tapes = (k : Int)) (h1 : 1 ≤ k) (h3 : k ≤ 3) : unlikeC r (relOf (noL k)) = tupleC r ∧ unlikeL r (relOf (noL k)) = tupleL r := by
  obtain ⟨n1, n2⟩ := noL_ok h1 h3
  have h0 := (eq_no h hk h1 h3).1
  have en := (okL' n1).1.2
  rw [n2] at en
  have hkl : (toL r).k = (noL k).k := by show r.tapes.toNat = k; rw [hk]; rfl
  have hx : firstX (tidL (toL r)) = firstPP ne2 (toL r) (noL k) := by
    refine firstX_congr rfl fun p hp => ?_
    rw [none_takes en (fun b hb => by
      have : b ∈ [false] := hb
      simpa using this) p (by rw [← hkl]; exact hp)]
    show Tk (toL r) p = _
    unfold ne2
    cases Tk (toL r) p <;> rfl
  unfold unlikeC unlikeL tupleC tupleL
  rw [if_pos h0, if_pos h0, if_pos h, if_pos h, n2, hx]
  exact ⟨rfl, rfl⟩

set_option maxHeartbeats 8000000 in
theorem tupleI (v : Value) (r : R) (w : World) (B : Nat) (h : RelAt w B v r) (hB : B ≤ w.heap.size) :
    Calls Try.prog 18 #[v] w fun e w' => ∃ x, e = .returned (.tuple #[x, .int .i64 (tupleC r)]) ∧ FreshS w.heap.size w' x (tupleL r) ∧ Below w.heap.size w w' := by
  have HV1 := Lib.hid (fun W (hb : Below w.heap.size w W) => ValidImpl.implValid v r W B (h.below hb hB) (Nat.le_trans hB hb.size))
  have HE0 := Lib.hid (show okB r = false → tupleC r = 1 ∧ tupleL r = [] from fun h => by simp [tupleC, tupleL, h])
  have HEQ := Lib.hid (fun (h0 : okB r = true) (k : Nat) (hk : r.tapes = (k : Int)) (h1 : 1 ≤ k) (h3 : k ≤ 3) W u (hb : Below w.heap.size w W) (hu : RelAt W W.heap.size u (relOf (noL k))) => show Calls Try.prog 11 #[v, u] W fun e w' => ∃ x, e = .returned (.tuple #[x, .int .i64 (tupleC r)]) ∧ FreshS W.heap.size w' x (tupleL r) ∧ Below W.heap.size W w' from by
    have e := tuple_no h0 hk h1 h3
    have := UnlikeI.unlikeI v u r (relOf (noL k)) W W.heap.size ((h.below hb hB).mono (Nat.le_trans hB hb.size)) hu (Nat.le_refl _)
    rwa [e.1, e.2] at this)
  have HKK := Lib.hid (fun (h0 : okB r = true) => r_k h0)
  obtain ⟨V, hV⟩ : ∃ x, x = tupleL r := ⟨_, rfl⟩
  obtain ⟨C, hC⟩ : ∃ x, x = tupleC r := ⟨_, rfl⟩
  obtain ⟨q, hq⟩ : ∃ x, x = okB r := ⟨_, rfl⟩
  rw [← hV] at HE0 HEQ
  rw [← hC] at HE0 HEQ
  rw [← hq] at HV1 HE0 HEQ HKK
  rw [← hV, ← hC]
  clear hV hC hq
  obtain ⟨va, vn, rfl, ha, hn⟩ := h
  obtain ⟨aa1, ba, oa, ca1, rfl, -, -, -⟩ := ha
  obtain ⟨-, ⟨ab1, bb, ob, cb1, rfl, -, -, -⟩, -⟩ := hn
  obtain ⟨k1, hk⟩ : ∃ x, x = r.tapes := ⟨_, rfl⟩
  obtain ⟨st1, hst⟩ : ∃ x, x = r.start := ⟨_, rfl⟩
  obtain ⟨na1, hna⟩ : ∃ x, x = r.accept.length := ⟨_, rfl⟩
  obtain ⟨nb1, hnb⟩ : ∃ x, x = r.next.length := ⟨_, rfl⟩
  rw [← hk, ← hst, ← hna, ← hnb] at HV1 HEQ
  rw [← hk] at HKK
  rw [← hk, ← hst, ← hna, ← hnb]
  clear hk hst hna hnb
  have HC1 := Lib.hid (HV1.out (w.alloc (.cells #[.int .i64 k1, .int .i64 st1, .slice aa1 na1 ca1, .slice ab1 nb1 cb1] 30)) ((Below.refl _ _).alloc (Nat.le_refl _) _))
  clear HV1 hB
  go_enter Try.func18, Try.ntmps18
  go_wp2_with fail
  refine HC1.out.mono ?_
  rintro e w3 ⟨rfl, hb3⟩
  rw [size_alloc'] at hb3
  have HK3 := Lib.hid (show E1 w #[.int .i64 k1, .int .i64 st1, .slice aa1 na1 ca1, .slice ab1 nb1 cb1] w3 from hb3)
  clear hb3 HC1
  cases q with
  | false =>
    obtain ⟨rfl, rfl⟩ := HE0.out rfl
    clear HE0 HEQ HKK
    go_wp2_with fail
    go_ret2
    exact ⟨_, rfl, freshS_none _ _ _ _, E1.base HK3.out⟩
  | true =>
    obtain ⟨k, rfl, hk1, hk3, -⟩ := HKK.out rfl
    have HNT := Lib.hid (fun W => noTuples k hk1 hk3 W)
    have HEA := Lib.hid (HEQ.out rfl k rfl hk1 hk3)
    clear HE0 HEQ HKK
    have x0 := cells_get (E1.box HK3.out) 0
    have x1 := cells_get (E1.box HK3.out) 1
    have x2 := cells_get (E1.box HK3.out) 2
    have x3 := cells_get (E1.box HK3.out) 3
    simp at x0 x1 x2 x3
    have hl := E1.size HK3.out
    go_wp2_with fail
    go_region_with (first
      | (go_at_call 42; refine (HNT.out _).mono ?_; rintro e w4 ⟨va4, vn4, rfl, hbu, hb4⟩; have HK4 := Lib.hid (E1.go (E1.drew HK3.out) hb4); have HR4 := Lib.hid (hbu.reads w4.heap.size (Nat.le_refl _) (k : Int) 0); clear hbu hb4; clear x0 x1 x2 x3 hl; have x0 := cells_get (E1.box HK4.out) 0; have x1 := cells_get (E1.box HK4.out) 1; have x2 := cells_get (E1.box HK4.out) 2; have x3 := cells_get (E1.box HK4.out) 3; simp at x0 x1 x2 x3; have hl := E1.size HK4.out)
      | (go_at_call 11; refine (HEA.out _ _ (E1.base HK4.out) HR4.out).mono ?_; rintro e w5 ⟨x5, rfl, hfr, hb5⟩; have HFR := Lib.hid (FreshS.low hfr (show w.heap.size ≤ _ from (E1.base HK4.out).size)); obtain ⟨a5, c5, rfl, -⟩ := hfr; have HB5 := Lib.hid ((E1.base HK4.out).trans (hb5.mono (E1.base HK4.out).size)); clear hb5))
    all_goals go_wp2
    all_goals go_ret2
    all_goals exact ⟨_, rfl, HFR.out, HB5.out⟩
end Go.Proofs.Ytjplmmokbkkclaa.TupleI
/- What the model answers that is asked for the first tuple of a relation.
   Conditions: the relation is read as XMem's text says. -/
namespace Go.Proofs.Ytjplmmokbkkclaa.TupleS
set_option linter.unusedVariables false
set_option linter.unusedSimpArgs false
set_option linter.ambiguousOpen false
set_option maxRecDepth 100000
open Go.RowKit Mem Copy Rel Valid Heap Columns Bld ToL TidyMath TidyClass TidyAuto TidyRight SpecFiner SpecRight PairMath First FirstTidy FirstI FirstW FirstK FirstS SpecTidied EqS UnlikeI EmptyI TupleI ResKit Alike EqI EmptyK TakenRight Strs ColMath TupMath SpecTuple SpecWords MarkRow Found

/-- A built relation in a block is a relation behind a pointer. -/
theorem built_ptr {W : World} {B X : Nat} {k st : Int} {va vn : Value} {A : List Bool} {N : List (List Int)} (hb : Built W B va vn A N) (hat : W.heap[X]? = some (.cells #[.int .i64 k, .int .i64 st, va, vn] 30 (0, 0))) : RelPtr W W.heap.size X ⟨k, st, A, N⟩ := by
  obtain ⟨va', vn', ev, hva, hvn⟩ := hb.reads W.heap.size (Nat.le_refl _) 0 0
  simp at ev
  obtain ⟨rfl, rfl⟩ := ev
  have y0 := cells_get hat 0
  have y1 := cells_get hat 1
  have y2 := cells_get hat 2
  have y3 := cells_get hat 3
  simp at y0 y1 y2 y3
  exact ⟨_, _, y0, y1, y2, y3, hva, hvn⟩


set_option maxHeartbeats 8000000 in
theorem tupleS (v : Value) (r : R) (w : World) (B : Nat) (h : RelAt w B v r) (hB : B ≤ w.heap.size) :
    Calls Try.prog 17 #[v] w fun e w' => ∃ x, e = .returned (.tuple #[x, .int .i64 (tupleC r)]) ∧ FreshS w.heap.size w' x (tupleL r) ∧ Below w.heap.size w w' := by
  have hR := h
  obtain ⟨va, vn, rfl, ha, hn⟩ := h
  obtain ⟨aa1, ba, oa, ca1, rfl, -, -, -⟩ := ha
  obtain ⟨-, ⟨ab1, bb, ob, cb1, rfl, -, -, -⟩, -⟩ := hn
  obtain ⟨c, hc⟩ : ∃ c : Array Value, c = #[.int .i64 r.tapes, .int .i64 r.start, .slice aa1 r.accept.length ca1, .slice ab1 r.next.length cb1] := ⟨_, rfl⟩
  have HP1 := Lib.hid (fun W (hk : E1 w c W) => box_ptr hR hB (E1.base hk) (by rw [← hc]; exact E1.box hk))
  have HV1 := Lib.hid (fun W (hk : E1 w c W) => specOk r w.heap.size W W.heap.size (HP1.out W hk))
  have HTI := Lib.hid (fun (h0 : okB r = true) => (show (toL r).Ok ∧ relOf (toL r) = r ∧ (toL r).acc.length ≤ 150 from by
    have e1 := okL' h0
    exact ⟨e1.1.2, e1.1.1, e1.2⟩))
  have HT1 := Lib.hid (fun (h0 : okB r = true) W (hk : E1 w c W) => tidied (toL r) (HTI.out h0).1 w.heap.size W W.heap.size (by rw [(HTI.out h0).2.1]; exact HP1.out W hk) (Nat.le_refl _) (by have := E1.size hk; omega) (by have := (HTI.out h0).2.2; omega))
  have HF3 := Lib.hid (fun (h0 : okB r = true) W X (h1 : RelPtr W W.heap.size X ⟨(toL r).k, 0, tidyAcc (toL r), tidyNext (toL r)⟩) (hX : X < W.heap.size) => show Calls Try.prog 30 #[.pointer (some ⟨X, 0, none⟩)] W fun e w' => ∃ x, e = .returned (.tuple #[x, .int .i64 (tupleC r)]) ∧ FreshS W.heap.size w' x (tupleL r) ∧ Below W.heap.size W w' from by
    obtain ⟨e1, e2, e3⟩ := HTI.out h0
    have hf := Found.found (tidL (toL r)) (tidL_ok e1) (fun c hc hlow => by
      have hlow' : Low (wide (toL r).k) c := hlow
      have hx : firstX (tidL (toL r)) = firstPP (fun a _ => a) (toL r) (toL r) := firstX_congr (l := toL r) (m := toL r) rfl (fun p hp => rfl)
      rw [hx] at hc
      exact taken_right e1 hlow' (UnlikeS.firstPP_ok hc)) X W W.heap.size (by rw [tidL_rel]; exact h1) (Nat.le_refl _) hX (by show (tidyAcc (toL r)).length ≤ _; have := tidyAcc_len e1; omega)
    have t1 : tupleC r = foundC (firstX (tidL (toL r))) := by unfold tupleC; rw [if_pos h0]
    have t2 : tupleL r = foundL (toL r).k (firstX (tidL (toL r))) := by unfold tupleL; rw [if_pos h0]
    rw [t1, t2]
    exact hf)
  have HE0 := Lib.hid (show okB r = false → tupleC r = 1 ∧ tupleL r = [] from fun h => by simp [tupleC, tupleL, h])
  obtain ⟨V, hV⟩ : ∃ x, x = tupleL r := ⟨_, rfl⟩
  obtain ⟨C, hC⟩ : ∃ x, x = tupleC r := ⟨_, rfl⟩
  obtain ⟨q, hq⟩ : ∃ x, x = okB r := ⟨_, rfl⟩
  rw [← hV, ← hC] at HE0 HF3
  rw [← hq] at HV1 HT1 HF3 HE0
  rw [← hV, ← hC]
  obtain ⟨k1, hk1⟩ : ∃ x : Int, x = (toL r).k := ⟨_, rfl⟩
  obtain ⟨A1, hA1⟩ : ∃ x, x = tidyAcc (toL r) := ⟨_, rfl⟩
  obtain ⟨N1, hN1⟩ : ∃ x, x = tidyNext (toL r) := ⟨_, rfl⟩
  rw [← hk1, ← hA1, ← hN1] at HT1 HF3
  clear hV hC hq hk1 hA1 hN1 hR HTI HP1 hB
  have HK0 := Lib.hid (show E1 w c (w.alloc (.cells c 30)) from Below.refl _ _)
  have HC0 := Lib.hid (HV1.out _ HK0.out)
  rw [hc] at HC0
  go_enter Try.func17, Try.ntmps17
  go_wp2_with fail
  refine HC0.out.mono ?_
  rw [← hc]
  rintro e w3 ⟨rfl, m, rfl⟩
  have HK3 := Lib.hid (show E1 w c ((w.alloc (.cells c 30)).drewN m) from below_drewN (Below.refl _ _) m)
  generalize (w.alloc (.cells c 30)).drewN m = w3 at HK3 ⊢
  clear HC0 HK0 HV1 hc
  cases q with
  | false =>
    obtain ⟨rfl, rfl⟩ := HE0.out rfl
    clear HT1 HF3 HE0
    go_wp2_with fail
    go_ret2
    exact ⟨_, rfl, freshS_none _ _ _ _, (E1.base HK3.out).alloc (E1.base HK3.out).size _⟩
  | true =>
    have HC1 := Lib.hid (HT1.out rfl w3 HK3.out)
    have HFF := Lib.hid (HF3.out rfl)
    clear HT1 HF3 HE0
    go_wp2_with fail
    refine HC1.out.mono ?_
    rintro e w7 ⟨va, vn, rfl, hbu, hb7⟩
    have HK7 := Lib.hid (E1.go HK3.out hb7)
    have HBU7 := Lib.hid hbu
    obtain ⟨a7, n7, c7, rfl, -⟩ := hbu.acc.shape'
    obtain ⟨items7, -, hnx7, -⟩ := hbu.rows
    obtain ⟨b7, m7, d7, rfl, -⟩ := hnx7.shape'
    have HC4 := Lib.hid (HFF.out (w7.alloc (.cells #[.int .i64 k1, .int .i64 0, .slice a7 n7 c7, .slice b7 m7 d7] 30)) w7.heap.size (built_ptr (HBU7.out.below ((Below.refl _ _).alloc (Nat.le_refl _) _)) (heap_alloc_new _ _)) (by rw [size_alloc']; exact Nat.lt_succ_self _))
    have HK8 := Lib.hid (show E1 w c (w7.alloc (.cells #[.int .i64 k1, .int .i64 0, .slice a7 n7 c7, .slice b7 m7 d7] 30)) from Below.alloc HK7.out (E1.size HK7.out) _)
    clear hbu hb7 hnx7 HC1 HFF
    go_wp2_with fail
    refine HC4.out.mono ?_
    rintro e w9 ⟨x9, rfl, hfr, hb9⟩
    have HB9 := Lib.hid (E1.base (E1.go HK8.out hb9))
    have HFR := Lib.hid (FreshS.low hfr (show w.heap.size ≤ _ from (E1.base HK8.out).size))
    obtain ⟨a9, c9, rfl, -⟩ := hfr
    clear hb9 HC4
    go_wp2_with fail
    go_ret2
    exact ⟨_, rfl, HFR.out, HB9.out⟩
end Go.Proofs.Ytjplmmokbkkclaa.TupleS
/- How the arguments of the laws read in memory: relations, lists of numbers.
   Conditions: none. -/
namespace Go.Proofs.Ytjplmmokbkkclaa.Readings
set_option linter.unusedVariables false
set_option maxRecDepth 20000
set_option linter.unusedSimpArgs false
open Go.RowKit Mem Rel Go.Joins Go.Deep Go.ChangeShapes Go.WideShapes

theorem Sl_of_addr {w : World} {a : Addr} {n cap : Nat} {f : Nat → Value} (hm : n ≤ maxLen) (h : ∀ i, i < n → w.cell? (a.add i) = some (f i)) : Sl w w.heap.size (.slice (some a) n cap) n f := by
  obtain ⟨b, off, spot⟩ := a
  by_cases h0 : n = 0
  · subst h0
    exact ⟨_, 0, 0, cap, rfl, hm, fun h => absurd h (Nat.lt_irrefl 0), fun i hi => absurd hi (Nat.not_lt_zero i)⟩
  · have hspot : spot = none := by
      have := World.cell?_spot (h 0 (by omega))
      simpa [Addr.add] using this
    subst hspot
    have hp : ∀ i, (⟨b, off, none⟩ : Addr).add i = ⟨b, off + i, none⟩ := by intro i; unfold Addr.add; split <;> simp_all
    refine ⟨_, b, off, cap, rfl, hm, fun _ => ⟨rfl, ?_⟩, fun i hi => ?_⟩
    · have := World.block_lt_of_cell? w _ (h 0 (by omega))
      rwa [hp] at this
    · have := h i hi
      rwa [hp] at this

theorem Sl_nil (w : World) (B : Nat) (a : Option Addr) (cap : Nat) (f : Nat → Value) : Sl w B (.slice a 0 cap) 0 f :=
  ⟨a, 0, 0, cap, rfl, Nat.zero_le _, fun h => absurd h (Nat.lt_irrefl 0), fun i hi => absurd hi (Nat.not_lt_zero i)⟩

section
variable {H : Type} {enc : TypeId × Value → H} {w : World}

theorem read_bools {fuel : Nat} {v : Value} {x : DataW H × List MemPlace} (h : DataW.trod enc Try.prog w 0 (fun _ => true) true fuel 22 [v] = some x) : ∃ bs, Bools w w.heap.size v bs := by
  rcases open_bools Try.underlying22 Try.underlying4 (by kernel_rfl) h with ⟨hcs, _⟩ | ⟨a, len, cap, Z, hcs, _, hl, hm, _, hcell⟩
  · simp at hcs; subst hcs
    exact ⟨[], Sl_nil _ _ _ _ _⟩
  · simp at hcs; subst hcs
    refine ⟨(List.range len).map Z, ?_⟩
    unfold Bools
    simp only [List.length_map, List.length_range]
    refine Sl_of_addr (by omega) fun i hi => ?_
    rw [hcell i (by simpa using (by omega : i < cap))]
    simp [List.getD, hi]

theorem read_rows {fuel : Nat} {v : Value} {x : DataW H × List MemPlace} (h : DataW.trod enc Try.prog w 0 (fun _ => true) true fuel 23 [v] = some x) : ∃ xss, IntRows w w.heap.size v xss := by
  rcases open_int_rows Try.underlying23 Try.underlying52 Try.underlying2 (by kernel_rfl) (by kernel_rfl) h with ⟨hcs, _⟩ | ⟨a, len, cap, A, L, C, Z, hcs, _, hl, hm, _, hcell⟩
  · simp at hcs; subst hcs
    exact ⟨[], fun _ => .slice none 0 0, Sl_nil _ _ _ _ _, fun i hi => absurd hi (Nat.not_lt_zero i)⟩
  · simp at hcs; subst hcs
    refine ⟨(List.range len).map fun r => (Z r).take (L r), fun r => .slice (A r) (L r) (C r), ?_, fun i hi => ?_⟩
    · simp only [List.length_map, List.length_range]
      exact Sl_of_addr (by omega) fun i hi => (hcell i (by omega)).1
    · simp only [List.length_map, List.length_range] at hi
      obtain ⟨_, h2, h3, h4, _, h6, h7⟩ := hcell i (by omega)
      have e : ((List.range len).map fun r => (Z r).take (L r)).getD i [] = (Z i).take (L i) := by simp [List.getD, hi]
      rw [e]
      unfold Ints
      have hlen : ((Z i).take (L i)).length = L i := by rw [List.length_take]; omega
      rw [hlen]
      show Sl w w.heap.size (.slice (A i) (L i) (C i)) (L i) _
      cases hA : A i with
      | none =>
        have := h6 hA
        have h0 : L i = 0 := by omega
        rw [h0]
        exact Sl_nil _ _ _ _ _
      | some a' =>
        refine Sl_of_addr (n := L i) (by omega) fun j hj => ?_
        rw [(h7 a' hA).2 j (by omega)]
        simp [List.getD, hj]

theorem read_rel {r : Reach} {b0 : Nat} {v : Value} {d : DataW H} {p : List MemPlace} (hv : Value.okWide Try.prog w r b0 25 v) (h : DataW.Trod enc Try.prog w 0 (fun _ => true) true 25 v d p) :
    ∃ R, RelAt w w.heap.size v R := by
  obtain ⟨v0, v1, v2, v3, y0, y1, y2, y3, n, rfl, _, _, h0, h1, h2, h3⟩ := open_agg4 Try.underlying25 (by kernel_rfl) (by kernel_rfl) hv h
  obtain ⟨t, e0, _, _⟩ := DataW.trod_int Try.underlying2 h0
  obtain ⟨s, e1, _, _⟩ := DataW.trod_int Try.underlying2 h1
  simp at e0 e1
  subst e0 e1
  obtain ⟨bs, hb⟩ := read_bools h2
  obtain ⟨xss, hx⟩ := read_rows h3
  exact ⟨⟨t, s, bs, xss⟩, v2, v3, rfl, hb, hx⟩
end
end Go.Proofs.Ytjplmmokbkkclaa.Readings
