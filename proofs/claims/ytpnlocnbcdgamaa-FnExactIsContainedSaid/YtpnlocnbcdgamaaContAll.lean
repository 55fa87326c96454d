
/- What the program answers that is asked whether a relation lies in another.
   Conditions: the relations are read as XMem's text says. -/
import Derived.Test.YtpnlocnbcdgamaaEqI
import Derived.Test.YtpnlocnbcdgamaaFirstS
import Derived.Test.YtpnlocnbcdgamaaPairSB
import Derived.Test.YtpnlocnbcdgamaaEqS
import Derived.Test.YtpnlocnbcdgamaaResKit
import Derived.Test.YtpnlocnbcdgamaaSameLaw0
import Derived.Deep.RegionWith
namespace Go.Proofs.Ytpnlocnbcdgamaa.ContI
set_option linter.unusedVariables false
set_option linter.unusedSimpArgs false
set_option linter.ambiguousOpen false
set_option maxRecDepth 100000
open Go.RowKit Mem Copy Rel Valid Heap Columns Bld ToL TidyMath TidyClass TidyAuto TidyRight SpecFiner SpecRight First FirstTidy FirstI FirstW Alike EqI

/-- Whether a relation lies in another, if they can be asked about. -/
noncomputable def liesV (r s : R) : Bool := decide (alikeC r s = 0) && !apartB lf2 r s

set_option maxHeartbeats 1000000 in
theorem left1 (a b : Bool) (W : World) : Calls Try.prog 48 #[.bool a, .bool b] W fun e w' => e = .returned (.bool (lf2 a b)) ∧ W = w' := by
  cases a <;> cases b
  all_goals
    go_enter Try.func48, Try.ntmps48
    go_wp2
    go_ret
    exact ⟨rfl, rfl⟩
/-- What is asked of it where only the truth value is wanted. -/
theorem leftI (r s : R) (h0 : alikeC r s = 0) (v u : Value) (w : World) (B : Nat) (h : RelAt w B v r) (h' : RelAt w B u s) (hB : B ≤ w.heap.size) :
    Calls Try.prog 47 #[v, u, .func (.func 48) #[] #[]] w fun e w' => ∃ a n c, e = .returned (.tuple #[.slice a n c, .bool (apartB lf2 r s)]) ∧ Below w.heap.size w w' := by
  obtain ⟨h1, h2, h3⟩ := alike_of h0
  have e1 := okL' h1
  have e2 := okL' h2
  refine (FirstW.firstWith lf2 (toL r) (toL s) e1.1.2 e2.1.2 (by show r.tapes.toNat = s.tapes.toNat; rw [h3]) e1.2 e2.2 v u 48 (fun _ _ => rfl) left1 w B (by rw [e1.1.1]; exact h) (by rw [e2.1.1]; exact h') hB).mono fun e w' hans => ?_
  rcases hans with ⟨vc, c, h1, -, h3, h4, h5⟩ | ⟨h1, h2, h3⟩
  · obtain ⟨a5, n5, c5, rfl, -⟩ := h4.shape'
    exact ⟨a5, n5, c5, by rw [h3]; unfold apartB; rw [h1]; rfl, h5⟩
  · exact ⟨none, 0, 0, by rw [h2]; unfold apartB; rw [h1]; rfl, h3⟩

set_option maxHeartbeats 8000000 in
theorem containedI (v u : Value) (r s : R) (w : World) (B : Nat) (h : RelAt w B v r) (h' : RelAt w B u s) (hB : B ≤ w.heap.size) :
    Calls Try.prog 24 #[v, u] w fun e w' => e = .returned (.tuple #[.bool (liesV r s), .int .i64 (alikeC r s)]) ∧ Below w.heap.size w w' := by
  have HAP := Lib.hid (fun (h0 : alikeC r s = 0) W (hb : Below w.heap.size w W) => leftI r s h0 v u W W.heap.size ((h.below hb hB).mono (Nat.le_trans hB hb.size)) ((h'.below hb hB).mono (Nat.le_trans hB hb.size)) (Nat.le_refl _))
  have HAL := Lib.hid (fun W (hb : Below w.heap.size w W) => alikeI v u r s W W.heap.size ((h.below hb hB).mono (Nat.le_trans hB hb.size)) ((h'.below hb hB).mono (Nat.le_trans hB hb.size)) (Nat.le_refl _))
  have HV0 := Lib.hid (show alikeC r s ≠ 0 → liesV r s = false from fun h0 => by unfold liesV; rw [decide_eq_false h0]; rfl)
  have HV9 := Lib.hid (show alikeC r s = 0 → liesV r s = !apartB lf2 r s from fun h0 => by unfold liesV; rw [decide_eq_true h0]; rfl)
  obtain ⟨V, hV⟩ : ∃ x, x = liesV r s := ⟨_, rfl⟩
  obtain ⟨AP, hAP⟩ : ∃ x, x = apartB lf2 r s := ⟨_, rfl⟩
  obtain ⟨C, hC⟩ : ∃ x, x = alikeC r s := ⟨_, rfl⟩
  rw [← hV] at HV0 HV9
  rw [← hAP] at HAP HV9
  rw [← hC] at HAP HAL HV0 HV9
  rw [← hV, ← hC]
  clear hV hAP hC
  obtain ⟨va, vn, rfl, ha, hn⟩ := h
  obtain ⟨aa1, ba, oa, ca1, rfl, -, -, -⟩ := ha
  obtain ⟨-, ⟨ab1, bb, ob, cb1, rfl, -, -, -⟩, -⟩ := hn
  obtain ⟨va, vn, rfl, ha, hn⟩ := h'
  obtain ⟨aa2, ba, oa, ca2, rfl, -, -, -⟩ := ha
  obtain ⟨-, ⟨ab2, bb, ob, cb2, rfl, -, -, -⟩, -⟩ := hn
  obtain ⟨k1, hk⟩ : ∃ x, x = r.tapes := ⟨_, rfl⟩
  obtain ⟨st1, hst⟩ : ∃ x, x = r.start := ⟨_, rfl⟩
  obtain ⟨na1, hna⟩ : ∃ x, x = r.accept.length := ⟨_, rfl⟩
  obtain ⟨nb1, hnb⟩ : ∃ x, x = r.next.length := ⟨_, rfl⟩
  rw [← hk, ← hst, ← hna, ← hnb] at HAL HAP
  rw [← hk, ← hst, ← hna, ← hnb]
  clear hk hst hna hnb
  obtain ⟨k2, hk⟩ : ∃ x, x = s.tapes := ⟨_, rfl⟩
  obtain ⟨st2, hst⟩ : ∃ x, x = s.start := ⟨_, rfl⟩
  obtain ⟨na2, hna⟩ : ∃ x, x = s.accept.length := ⟨_, rfl⟩
  obtain ⟨nb2, hnb⟩ : ∃ x, x = s.next.length := ⟨_, rfl⟩
  rw [← hk, ← hst, ← hna, ← hnb] at HAL HAP
  rw [← hk, ← hst, ← hna, ← hnb]
  clear hk hst hna hnb
  have HK0 := Lib.hid (show K2 w #[.int .i64 k1, .int .i64 st1, .slice aa1 na1 ca1, .slice ab1 nb1 cb1] #[.int .i64 k2, .int .i64 st2, .slice aa2 na2 ca2, .slice ab2 nb2 cb2] ((w.alloc (.cells #[.int .i64 k1, .int .i64 st1, .slice aa1 na1 ca1, .slice ab1 nb1 cb1] 29)).alloc (.cells #[.int .i64 k2, .int .i64 st2, .slice aa2 na2 ca2, .slice ab2 nb2 cb2] 29)) from Below.refl _ _)
  have HC1 := Lib.hid (HAL.out _ (K2.base HK0.out))
  clear HAL hB
  go_enter Try.func24, Try.ntmps24
  go_wp2_with fail
  refine HC1.out.mono ?_
  rintro e w3 ⟨rfl, hb3⟩
  have HK3 := Lib.hid (show K2 w #[.int .i64 k1, .int .i64 st1, .slice aa1 na1 ca1, .slice ab1 nb1 cb1] #[.int .i64 k2, .int .i64 st2, .slice aa2 na2 ca2, .slice ab2 nb2 cb2] w3 from Below.trans HK0.out (hb3.mono (K2.size HK0.out)))
  have HW3 := Lib.hid (K2.base HK3.out)
  clear hb3 HC1 HK0
  by_cases h0 : C = 0
  · have HC4 := Lib.hid (HAP.out h0 w3 HW3.out)
    have HVV := Lib.hid (HV9.out h0)
    subst h0
    clear HAP HV0 HV9
    have hb1 := K2.box1 HK3.out
    have hb2 := K2.box2 HK3.out
    have x0 := cells_get hb1 0
    have x1 := cells_get hb1 1
    have x2 := cells_get hb1 2
    have x3 := cells_get hb1 3
    have y0 := cells_get hb2 0
    have y1 := cells_get hb2 1
    have y2 := cells_get hb2 2
    have y3 := cells_get hb2 3
    simp at x0 x1 x2 x3 y0 y1 y2 y3
    have hk4 := K2.size HK3.out
    clear hb1 hb2
    go_wp2_with fail
    refine HC4.out.mono ?_
    rintro e w5 ⟨a5, n5, c5, rfl, hb5⟩
    have HW5 := Lib.hid (HW3.out.trans (hb5.mono HW3.out.size))
    clear hb5
    go_wp2_with fail
    go_ret2
    exact ⟨by rw [HVV.out]; rfl, HW5.out⟩
  · obtain rfl := HV0.out h0
    clear HAP HV0 HV9
    have hcne : (C != 0) = true := by simpa using h0
    go_wp2_with fail
    go_ret2
    exact ⟨rfl, HW3.out⟩
end Go.Proofs.Ytpnlocnbcdgamaa.ContI
/- What the model answers that is asked whether a relation lies in another.
   Conditions: the relations are read as XMem's text says. -/
namespace Go.Proofs.Ytpnlocnbcdgamaa.ContS
set_option linter.unusedVariables false
set_option linter.unusedSimpArgs false
set_option linter.ambiguousOpen false
set_option maxRecDepth 100000
open Go.RowKit Mem Copy Rel Valid Heap Columns Bld ToL TidyMath TidyClass TidyAuto TidyRight SpecFiner SpecRight SpecTidied PairMath First FirstTidy FirstI FirstW FirstK FirstS Alike EqI EqS ContI ResKit

/-- A built relation in a block is a relation behind a pointer. -/
theorem built_ptr {W : World} {B X : Nat} {k st : Int} {va vn : Value} {A : List Bool} {N : List (List Int)} (hb : Built W B va vn A N) (hat : W.heap[X]? = some (.cells #[.int .i64 k, .int .i64 st, va, vn] 29 (0, 0))) : RelPtr W W.heap.size X ⟨k, st, A, N⟩ := by
  obtain ⟨va', vn', ev, hva, hvn⟩ := hb.reads W.heap.size (Nat.le_refl _) 0 0
  simp at ev
  obtain ⟨rfl, rfl⟩ := ev
  have y0 := cells_get hat 0
  have y1 := cells_get hat 1
  have y2 := cells_get hat 2
  have y3 := cells_get hat 3
  simp at y0 y1 y2 y3
  exact ⟨_, _, y0, y1, y2, y3, hva, hvn⟩

set_option maxHeartbeats 8000000 in
theorem specContained (v u : Value) (r s : R) (w : World) (B : Nat) (h : RelAt w B v r) (h' : RelAt w B u s) (hB : B ≤ w.heap.size) :
    Calls Try.prog 23 #[v, u] w fun e w' => e = .returned (.tuple #[.bool (liesV r s), .int .i64 (alikeC r s)]) ∧ Below w.heap.size w w' := by
  have hR := h
  have hS := h'
  obtain ⟨va, vn, rfl, ha, hn⟩ := h
  obtain ⟨aa1, ba, oa, ca1, rfl, -, -, -⟩ := ha
  obtain ⟨-, ⟨ab1, bb, ob, cb1, rfl, -, -, -⟩, -⟩ := hn
  obtain ⟨va, vn, rfl, ha, hn⟩ := h'
  obtain ⟨aa2, ba, oa, ca2, rfl, -, -, -⟩ := ha
  obtain ⟨-, ⟨ab2, bb, ob, cb2, rfl, -, -, -⟩, -⟩ := hn
  obtain ⟨c, hc⟩ : ∃ c : Array Value, c = #[.int .i64 r.tapes, .int .i64 r.start, .slice aa1 r.accept.length ca1, .slice ab1 r.next.length cb1] := ⟨_, rfl⟩
  obtain ⟨d, hd⟩ : ∃ d : Array Value, d = #[.int .i64 s.tapes, .int .i64 s.start, .slice aa2 s.accept.length ca2, .slice ab2 s.next.length cb2] := ⟨_, rfl⟩
  have HP1 := Lib.hid (fun W (hk : K2 w c d W) => box_ptr hR hB (K2.base hk) (by rw [← hc]; exact K2.box1 hk))
  have HP2 := Lib.hid (fun W (hk : K2 w c d W) => box_ptr hS hB (K2.base hk) (by rw [← hd]; exact K2.box2 hk))
  have HTW := Lib.hid (fun W (hk : K2 w c d W) => twoS r s w.heap.size (w.heap.size + 1) W W.heap.size (HP1.out W hk) (HP2.out W hk))
  have HTI := Lib.hid (fun (h0 : alikeC r s = 0) => (show ((toL r).Ok ∧ relOf (toL r) = r ∧ (toL r).acc.length ≤ 150) ∧ ((toL s).Ok ∧ relOf (toL s) = s ∧ (toL s).acc.length ≤ 150) ∧ (toL r).k = (toL s).k from by
    obtain ⟨h1, h2, h3⟩ := alike_of h0
    have e1 := okL' h1
    have e2 := okL' h2
    exact ⟨⟨e1.1.2, e1.1.1, e1.2⟩, ⟨e2.1.2, e2.1.1, e2.2⟩, by show r.tapes.toNat = s.tapes.toNat; rw [h3]⟩))
  have HT1 := Lib.hid (fun (h0 : alikeC r s = 0) W (hk : K2 w c d W) => tidied (toL r) (HTI.out h0).1.1 w.heap.size W W.heap.size (by rw [(HTI.out h0).1.2.1]; exact HP1.out W hk) (Nat.le_refl _) (by have := K2.size hk; omega) (by have := (HTI.out h0).1.2.2; omega))
  have HT2 := Lib.hid (fun (h0 : alikeC r s = 0) W (hk : K2 w c d W) => tidied (toL s) (HTI.out h0).2.1.1 (w.heap.size + 1) W W.heap.size (by rw [(HTI.out h0).2.1.2.1]; exact HP2.out W hk) (Nat.le_refl _) (by have := K2.size hk; omega) (by have := (HTI.out h0).2.1.2.2; omega))
  have HV0 := Lib.hid (show alikeC r s ≠ 0 → liesV r s = false from fun h0 => by unfold liesV; rw [decide_eq_false h0]; rfl)
  have HV1 := Lib.hid (show alikeC r s = 0 → liesV r s = !apartB lf2 r s from fun h0 => by unfold liesV; rw [decide_eq_true h0]; rfl)
  have HPL := Lib.hid (fun (h0 : alikeC r s = 0) => (show (pairL lf2 (tidL (toL r)) (tidL (toL s))).acc.length = (tidyAcc (toL r)).length * (tidyAcc (toL s)).length ∧ (tidyAcc (toL r)).length * (tidyAcc (toL s)).length ≤ 2000000 from by
    obtain ⟨h1, h2, h3⟩ := HTI.out h0
    refine ⟨pairL_len lf2 (tidL (toL r)) (tidL (toL s)), ?_⟩
    have e1 : (tidyAcc (toL r)).length ≤ 1201 := by have := tidyAcc_len h1.1; have := h1.2.2; omega
    have e2 : (tidyAcc (toL s)).length ≤ 1201 := by have := tidyAcc_len h2.1; have := h2.2.2; omega
    exact Nat.le_trans (Nat.mul_le_mul e1 e2) (by decide)))
  have HP3 := Lib.hid (fun (h0 : alikeC r s = 0) W X Y (h1 : RelPtr W W.heap.size X ⟨(toL r).k, 0, tidyAcc (toL r), tidyNext (toL r)⟩) (h2 : RelPtr W W.heap.size Y ⟨(toL s).k, 0, tidyAcc (toL s), tidyNext (toL s)⟩) (hX : X < W.heap.size) (hY : Y < W.heap.size) => PairSB.pairsWithout (tidL (toL r)) (tidL (toL s)) (tidL_ok (HTI.out h0).1.1) (tidL_ok (HTI.out h0).2.1.1) (HTI.out h0).2.2 X Y W W.heap.size (by rw [tidL_rel]; exact h1) (by rw [tidL_rel]; exact h2) (Nat.le_refl _) hX hY (HPL.out h0).2)
  have HF3 := Lib.hid (fun (h0 : alikeC r s = 0) W X (h1 : RelPtr W W.heap.size X (relOf (pairL lf2 (tidL (toL r)) (tidL (toL s))))) (hX : X < W.heap.size) => show Calls Try.prog 44 #[.pointer (some ⟨X, 0, none⟩)] W fun e w' => ∃ a n c, e = .returned (.tuple #[.slice a n c, .bool (apartB lf2 r s)]) ∧ Below W.heap.size W w' from by
    obtain ⟨e1, e2, e3⟩ := HTI.out h0
    refine (FirstS.first (pairL lf2 (tidL (toL r)) (tidL (toL s))) (pairL_ok lf2 (tidL_ok e1.1) (tidL_ok e2.1) e3) X W W.heap.size h1 (Nat.le_refl _) hX (by rw [(HPL.out h0).1]; exact Nat.le_trans (HPL.out h0).2 (by decide))).mono fun e w' hans => ?_
    have hfx : firstX (pairL lf2 (tidL (toL r)) (tidL (toL s))) = firstPP lf2 (toL r) (toL s) := firstX_congr (l := toL r) (m := toL s) rfl (fun p hp => takes_pair lf2 e1.1 e2.1 e3 p hp)
    unfold apartB
    rw [← hfx]
    rcases hans with ⟨vc, c, h1, -, h3, h4, h5⟩ | ⟨h1, a, c, h2, h3⟩
    · obtain ⟨a5, n5, c5, rfl, -⟩ := h4.shape'
      exact ⟨a5, n5, c5, by rw [h3, h1]; rfl, h5⟩
    · exact ⟨a, 0, c, by rw [h2, h1]; rfl, h3⟩)
  obtain ⟨AP, hAP⟩ : ∃ x, x = apartB lf2 r s := ⟨_, rfl⟩
  rw [← hAP] at HV1 HF3
  clear hAP HPL
  obtain ⟨PK, hPK⟩ : ∃ x : Nat, x = (pairL lf2 (tidL (toL r)) (tidL (toL s))).k := ⟨_, rfl⟩
  obtain ⟨PS, hPS⟩ : ∃ x : Nat, x = (pairL lf2 (tidL (toL r)) (tidL (toL s))).start := ⟨_, rfl⟩
  obtain ⟨PA, hPA⟩ : ∃ x, x = (pairL lf2 (tidL (toL r)) (tidL (toL s))).acc := ⟨_, rfl⟩
  obtain ⟨PN, hPN⟩ : ∃ x, x = (relOf (pairL lf2 (tidL (toL r)) (tidL (toL s)))).next := ⟨_, rfl⟩
  have HJR := Lib.hid (show relOf (pairL lf2 (tidL (toL r)) (tidL (toL s))) = ⟨PK, PS, PA, PN⟩ from by rw [hPK, hPS, hPA, hPN]; rfl)
  have HP4 := Lib.hid (show ∀ (h0 : alikeC r s = 0) (W : World) X Y (h1 : RelPtr W W.heap.size X ⟨(toL r).k, 0, tidyAcc (toL r), tidyNext (toL r)⟩) (h2 : RelPtr W W.heap.size Y ⟨(toL s).k, 0, tidyAcc (toL s), tidyNext (toL s)⟩) (hX : X < W.heap.size) (hY : Y < W.heap.size), Calls Try.prog 45 #[.pointer (some ⟨X, 0, none⟩), .pointer (some ⟨Y, 0, none⟩), .int .i64 3] W fun e w' => ∃ va vn, e = .returned (.agg #[.int .i64 PK, .int .i64 PS, va, vn]) ∧ Built w' W.heap.size va vn PA PN ∧ Below W.heap.size W w' from fun h0 W X Y h1 h2 hX hY => by
    rw [hPK, hPS, hPA, hPN]
    exact HP3.out h0 W X Y h1 h2 hX hY)
  rw [HJR.out] at HF3
  clear HJR HP3 hPK hPS hPA hPN
  obtain ⟨V, hV⟩ : ∃ x, x = liesV r s := ⟨_, rfl⟩
  obtain ⟨C, hC⟩ : ∃ x, x = alikeC r s := ⟨_, rfl⟩
  rw [← hC] at HTW HT1 HT2 HV0 HV1 HF3 HP4
  rw [← hV] at HV0 HV1
  rw [← hV, ← hC]
  obtain ⟨k1, hk1⟩ : ∃ x : Int, x = (toL r).k := ⟨_, rfl⟩
  obtain ⟨k2, hk2⟩ : ∃ x : Int, x = (toL s).k := ⟨_, rfl⟩
  obtain ⟨A1, hA1⟩ : ∃ x, x = tidyAcc (toL r) := ⟨_, rfl⟩
  obtain ⟨A2, hA2⟩ : ∃ x, x = tidyAcc (toL s) := ⟨_, rfl⟩
  obtain ⟨N1, hN1⟩ : ∃ x, x = tidyNext (toL r) := ⟨_, rfl⟩
  obtain ⟨N2, hN2⟩ : ∃ x, x = tidyNext (toL s) := ⟨_, rfl⟩
  rw [← hk1, ← hA1, ← hN1] at HT1
  rw [← hk2, ← hA2, ← hN2] at HT2
  rw [← hk1, ← hk2, ← hA1, ← hA2, ← hN1, ← hN2] at HP4
  clear hV hC hk1 hk2 hA1 hA2 hN1 hN2 hR hS HTI HP1 HP2 hB
  have HK0 := Lib.hid (show K2 w c d ((w.alloc (.cells c 29)).alloc (.cells d 29)) from Below.refl _ _)
  have HC0 := Lib.hid (HTW.out _ HK0.out)
  rw [hc, hd] at HC0
  go_enter Try.func23, Try.ntmps23
  go_wp2_with fail
  refine HC0.out.mono ?_
  rw [← hc, ← hd]
  rintro e w3 ⟨rfl, q, rfl⟩
  have HK3 := Lib.hid (show K2 w c d (((w.alloc (.cells c 29)).alloc (.cells d 29)).drewN q) from below_drewN (Below.refl _ _) q)
  generalize ((w.alloc (.cells c 29)).alloc (.cells d 29)).drewN q = w3 at HK3 ⊢
  clear HC0 HK0 HTW hc hd
  by_cases h0 : C = 0
  · have HC1 := Lib.hid (HT1.out h0 w3 HK3.out)
    have HCT := Lib.hid (HT2.out h0)
    have HVE := Lib.hid (HV1.out h0)
    have HPP := Lib.hid (HP4.out h0)
    have HFF := Lib.hid (HF3.out h0)
    subst h0
    clear HT1 HT2 HV0 HV1 HP4 HF3
    go_wp2_with fail
    refine HC1.out.mono ?_
    rintro e w4 ⟨va, vn, rfl, hbu, hb4⟩
    have HK4 := Lib.hid (show K2 w c d w4 from Below.trans HK3.out (hb4.mono (K2.size HK3.out)))
    have HBU4 := Lib.hid hbu
    obtain ⟨a3, n3, c3, rfl, -⟩ := hbu.acc.shape'
    obtain ⟨items3, -, hnx3, -⟩ := hbu.rows
    obtain ⟨b3, m3, d3, rfl, -⟩ := hnx3.shape'
    have HK5 := Lib.hid (show K2 w c d (w4.alloc (.cells #[.int .i64 k1, .int .i64 0, .slice a3 n3 c3, .slice b3 m3 d3] 29)) from Below.alloc HK4.out (K2.size HK4.out) _)
    have HC2 := Lib.hid (HCT.out _ HK5.out)
    clear hbu hb4 hnx3 HC1 HCT
    go_wp2_with fail
    refine HC2.out.mono ?_
    rintro e w5 ⟨va, vn, rfl, hbu, hb5⟩
    have HK6 := Lib.hid (show K2 w c d w5 from Below.trans HK5.out (hb5.mono (K2.size HK5.out)))
    have hs5 := hb5.size
    rw [size_alloc'] at hbu hb5 hs5
    have HBU5 := Lib.hid hbu
    have HLB := Lib.hid (show w5.heap[w4.heap.size]? = some (.cells #[.int .i64 k1, .int .i64 0, .slice a3 n3 c3, .slice b3 m3 d3] 29 (0, 0)) from (hb5.block _ (Nat.lt_succ_self _)).trans (heap_alloc_new _ _))
    have HB45 := Lib.hid (show Below w4.heap.size w4 w5 from ((Below.refl _ _).alloc (Nat.le_refl _) _).trans (hb5.mono (Nat.le_succ _)))
    have HS45 := Lib.hid (show w4.heap.size < w5.heap.size from hs5)
    obtain ⟨a5, n5, c5, rfl, -⟩ := hbu.acc.shape'
    obtain ⟨items5, -, hnx5, -⟩ := hbu.rows
    obtain ⟨b5, m5, d5, rfl, -⟩ := hnx5.shape'
    have HB5A := Lib.hid (show Below w5.heap.size w5 (w5.alloc (.cells #[.int .i64 k2, .int .i64 0, .slice a5 n5 c5, .slice b5 m5 d5] 29)) from (Below.refl _ _).alloc (Nat.le_refl _) _)
    have HC3 := Lib.hid (HPP.out (w5.alloc (.cells #[.int .i64 k2, .int .i64 0, .slice a5 n5 c5, .slice b5 m5 d5] 29)) w4.heap.size w5.heap.size (built_ptr (HBU4.out.below (HB45.out.trans (HB5A.out.mono HB45.out.size))) ((Below.heap_alloc _ _ _ HS45.out).trans HLB.out)) (built_ptr (HBU5.out.below HB5A.out) (heap_alloc_new _ _)) (by rw [size_alloc']; have := HS45.out; omega) (by rw [size_alloc']; exact Nat.lt_succ_self _))
    have HKA := Lib.hid (show K2 w c d (w5.alloc (.cells #[.int .i64 k2, .int .i64 0, .slice a5 n5 c5, .slice b5 m5 d5] 29)) from Below.alloc HK6.out (K2.size HK6.out) _)
    clear hbu hb5 hs5 hnx5 HC2 HPP
    go_wp2_with fail
    refine HC3.out.mono ?_
    rintro e w7 ⟨va, vn, rfl, hbu, hb7⟩
    have HK7 := Lib.hid (show K2 w c d w7 from Below.trans HKA.out (hb7.mono (K2.size HKA.out)))
    have HBU7 := Lib.hid hbu
    obtain ⟨a7, n7, c7, rfl, -⟩ := hbu.acc.shape'
    obtain ⟨items7, -, hnx7, -⟩ := hbu.rows
    obtain ⟨b7, m7, d7, rfl, -⟩ := hnx7.shape'
    have HC4 := Lib.hid (HFF.out (w7.alloc (.cells #[.int .i64 PK, .int .i64 PS, .slice a7 n7 c7, .slice b7 m7 d7] 29)) w7.heap.size (built_ptr (HBU7.out.below ((Below.refl _ _).alloc (Nat.le_refl _) _)) (heap_alloc_new _ _)) (by rw [size_alloc']; exact Nat.lt_succ_self _))
    have HK8 := Lib.hid (show K2 w c d (w7.alloc (.cells #[.int .i64 PK, .int .i64 PS, .slice a7 n7 c7, .slice b7 m7 d7] 29)) from Below.alloc HK7.out (K2.size HK7.out) _)
    clear hbu hb7 hnx7 HC3 HFF
    go_wp2_with fail
    refine HC4.out.mono ?_
    rintro e w9 ⟨a9, n9, c9, rfl, hb9⟩
    have HB9 := Lib.hid (show Below w.heap.size w w9 from K2.base (Below.trans HK8.out (hb9.mono (K2.size HK8.out))))
    clear hb9 HC4
    go_wp2_with fail
    go_ret2
    exact ⟨by rw [HVE.out]; rfl, HB9.out⟩
  · obtain rfl := HV0.out h0
    clear HT1 HT2 HV0 HV1 HP4 HF3
    have hcne : (C != 0) = true := by simpa using h0
    go_wp2_with fail
    go_ret2
    exact ⟨rfl, K2.base HK3.out⟩
end Go.Proofs.Ytpnlocnbcdgamaa.ContS
/- The law of IsContained: what the program answers is what the model answers, and the arguments stay as they were.
   Conditions: the relations are read as XRel's text says. -/
namespace Go.Proofs.Ytpnlocnbcdgamaa.LawIsContained
set_option linter.unusedVariables false
set_option linter.unusedSimpArgs false
set_option linter.ambiguousOpen false
set_option maxRecDepth 100000
open Go.RowKit Mem Rel SameLaw0

set_option maxHeartbeats 4000000 in
theorem law (w : World) (v : Value) (r : R) (hr : RelAt w w.heap.size v r) (u : Value) (s : R) (hs : RelAt w w.heap.size u s) :
    Calls Try.prog 7 #[v, u] w fun e w' => e = .returned (.bool true) ∧ Below w.heap.size w w' := by
  have HRW := Lib.hid (fun W (h : Below w.heap.size w W) => hr.below h (Nat.le_refl _))
  have HSW := Lib.hid (fun W (h : Below w.heap.size w W) => hs.below h (Nat.le_refl _))
  have HSP := Lib.hid (fun v u W h h' => ContS.specContained v u r s W W.heap.size h h' (Nat.le_refl _))
  have HIP := Lib.hid (fun v u W h h' => ContI.containedI v u r s W W.heap.size h h' (Nat.le_refl _))
  obtain ⟨V, hV⟩ : ∃ x, x = ContI.liesV r s := ⟨_, rfl⟩
  obtain ⟨C, hC⟩ : ∃ x, x = Alike.alikeC r s := ⟨_, rfl⟩
  rw [← hV, ← hC] at HSP HIP
  clear hV hC
  obtain ⟨va, vn, rfl, -, -⟩ := hr
  obtain ⟨ua, un, rfl, -, -⟩ := hs
  have B0 := Lib.hid (base_box (base_box (Below.refl _ w) (.cells #[.int .i64 r.tapes, .int .i64 r.start, va, vn] 25)) (.cells #[.int .i64 s.tapes, .int .i64 s.start, ua, un] 25))
  have F0 := Lib.hid ((Kept.new w (.int .i64 r.tapes) (.int .i64 r.start) va vn 25).box (.cells #[.int .i64 s.tapes, .int .i64 s.start, ua, un] 25))
  have G0 := Lib.hid (Kept.new (w.alloc (.cells #[.int .i64 r.tapes, .int .i64 r.start, va, vn] 25)) (.int .i64 s.tapes) (.int .i64 s.start) ua un 25)
  go_enter Try.func7, Try.ntmps7
  go_wp2_with fail
  refine (szRelation _ r 1048576 _ w.heap.size (HRW.out _ B0.out) B0.out.size (by omega) (by omega)).mono ?_
  rintro e w1 ⟨rfl, hb⟩
  have B1 := Lib.hid (base_step B0.out hb)
  have F1 := Lib.hid (F0.out.step hb)
  have G1' := G0.out.step hb
  clear hb
  simp only [World.size_alloc] at G1'
  have G1 := Lib.hid G1'
  obtain ⟨⟨k0, k1, k2, k3⟩, -⟩ := F1.out
  obtain ⟨⟨l0, l1, l2, l3⟩, -⟩ := G1'
  obtain ⟨z, hz⟩ : ∃ z, z = szRel 1048576 r := ⟨_, rfl⟩
  rw [← hz]
  have HZ := Lib.hid hz
  clear hz
  by_cases hneg : z < 0
  · go_wp2_with fail
    go_ret
    exact ⟨rfl, B1.out⟩
  · have SH := Lib.hid (short_of (r := r) (by rw [← HZ.out]; omega))
    have HL := Lib.hid (show z ≤ 1048576 by rw [HZ.out]; exact szRel_low (by omega))
    go_wp2_with fail
    refine (szRelation _ s z _ w.heap.size (HSW.out _ B1.out) B1.out.size (by omega) HL.out).mono ?_
    rintro e w2 ⟨rfl, hb⟩
    have B2 := Lib.hid (base_step B1.out hb)
    have F2 := Lib.hid (F1.out.step hb)
    have G2 := Lib.hid (G1.out.step hb)
    clear hb k0 k1 k2 k3 l0 l1 l2 l3
    obtain ⟨⟨k0, k1, k2, k3⟩, -⟩ := F2.out
    obtain ⟨⟨l0, l1, l2, l3⟩, -⟩ := G2.out
    obtain ⟨y, hy⟩ : ∃ y, y = szRel z s := ⟨_, rfl⟩
    rw [← hy]
    have HY := Lib.hid hy
    clear hy
    by_cases hneg2 : y < 0
    · go_wp2_with fail
      go_ret
      exact ⟨rfl, B2.out⟩
    · have SH2 := Lib.hid (short_of' (r := s) HL.out (by rw [← HY.out]; omega))
      go_wp2_with fail
      go_region_with (first
        | (go_at_call_of 10 va; refine (copyOwn _ r _ w.heap.size (HRW.out _ B2.out.drew) B2.out.drew.size SH.out).mono ?_; rintro e w3 ⟨M3, rfl, ho, hb⟩; have B3 := Lib.hid (base_step B2.out.drew hb); have F3 := Lib.hid (F2.out.drew.step hb); have G3 := Lib.hid (G2.out.drew.step hb); have O3 := Lib.hid ho; obtain ⟨⟨p0, p1, p2, p3⟩, -⟩ := G3.out; clear hb ho)
        | (go_at_call_of 10 ua; refine (copyOwn _ s w3 w.heap.size (HSW.out _ B3.out) B3.out.size SH2.out).mono ?_; rintro e w4 ⟨M4, rfl, ho, hb⟩; have B4 := Lib.hid (base_step B3.out hb); have F4 := Lib.hid (F3.out.step hb); have G4 := Lib.hid (G3.out.step hb); have O4 := Lib.hid (O3.out.step hb); have Q4 := Lib.hid ho; clear hb ho)
        | (go_at_call 23; refine (HSP.out _ _ w4 O4.out.reads Q4.out.reads).mono ?_; rintro e w5 ⟨rfl, hb⟩; have B5 := Lib.hid (base_step B4.out hb); have F5 := Lib.hid (F4.out.step hb); have G5 := Lib.hid (G4.out.step hb); clear hb p0 p1 p2 p3))
      all_goals
        clear k0 k1 k2 k3 l0 l1 l2 l3 O3 O4 Q4 B3 F3 G3 B4 F4 G4
        obtain ⟨⟨k0, k1, k2, k3⟩, -⟩ := F5.out
        go_wp2_with fail
        refine (copyOwn _ r w5 w.heap.size (HRW.out _ B5.out) B5.out.size SH.out).mono ?_
        rintro e w6 ⟨M6, rfl, ho, hb⟩
        have B6 := Lib.hid (base_box (base_step B5.out hb) (.cells #[.int .i64 r.tapes, .int .i64 r.start, .slice (some ⟨M6, 0, none⟩) r.accept.length r.accept.length, .slice (some ⟨M6 + 1, 0, none⟩) r.next.length r.next.length] 29))
        have F6 := Lib.hid ((F5.out.step hb).box (.cells #[.int .i64 r.tapes, .int .i64 r.start, .slice (some ⟨M6, 0, none⟩) r.accept.length r.accept.length, .slice (some ⟨M6 + 1, 0, none⟩) r.next.length r.next.length] 29))
        have G6 := (G5.out.step hb).box (.cells #[.int .i64 r.tapes, .int .i64 r.start, .slice (some ⟨M6, 0, none⟩) r.accept.length r.accept.length, .slice (some ⟨M6 + 1, 0, none⟩) r.next.length r.next.length] 29)
        have O6 := Lib.hid (ho.box (.cells #[.int .i64 r.tapes, .int .i64 r.start, .slice (some ⟨M6, 0, none⟩) r.accept.length r.accept.length, .slice (some ⟨M6 + 1, 0, none⟩) r.next.length r.next.length] 29))
        have K6 := Lib.hid (Kept.new w6 (.int .i64 r.tapes) (.int .i64 r.start) (.slice (some ⟨M6, 0, none⟩) r.accept.length r.accept.length) (.slice (some ⟨M6 + 1, 0, none⟩) r.next.length r.next.length) 29)
        have G6w := G5.out.step hb
        have hlt := G6w.lt
        obtain ⟨⟨l0, l1, l2, l3⟩, -⟩ := G6w
        have G6 := Lib.hid G6
        clear hb ho k0 k1 k2 k3
        go_wp2_with fail
        refine (copyOwn _ s _ w.heap.size (HSW.out _ B6.out) B6.out.size SH2.out).mono ?_
        rintro e w7 ⟨M7, rfl, ho, hb⟩
        have B7 := Lib.hid (base_box (base_step B6.out hb) (.cells #[.int .i64 s.tapes, .int .i64 s.start, .slice (some ⟨M7, 0, none⟩) s.accept.length s.accept.length, .slice (some ⟨M7 + 1, 0, none⟩) s.next.length s.next.length] 29))
        have F7 := Lib.hid ((F6.out.step hb).box (.cells #[.int .i64 s.tapes, .int .i64 s.start, .slice (some ⟨M7, 0, none⟩) s.accept.length s.accept.length, .slice (some ⟨M7 + 1, 0, none⟩) s.next.length s.next.length] 29))
        have G7 := Lib.hid ((G6.out.step hb).box (.cells #[.int .i64 s.tapes, .int .i64 s.start, .slice (some ⟨M7, 0, none⟩) s.accept.length s.accept.length, .slice (some ⟨M7 + 1, 0, none⟩) s.next.length s.next.length] 29))
        have O7 := Lib.hid ((O6.out.step hb).box (.cells #[.int .i64 s.tapes, .int .i64 s.start, .slice (some ⟨M7, 0, none⟩) s.accept.length s.accept.length, .slice (some ⟨M7 + 1, 0, none⟩) s.next.length s.next.length] 29))
        have Q7 := Lib.hid (ho.box (.cells #[.int .i64 s.tapes, .int .i64 s.start, .slice (some ⟨M7, 0, none⟩) s.accept.length s.accept.length, .slice (some ⟨M7 + 1, 0, none⟩) s.next.length s.next.length] 29))
        have K7 := Lib.hid ((K6.out.step hb).box (.cells #[.int .i64 s.tapes, .int .i64 s.start, .slice (some ⟨M7, 0, none⟩) s.accept.length s.accept.length, .slice (some ⟨M7 + 1, 0, none⟩) s.next.length s.next.length] 29))
        have L7 := Lib.hid (Kept.new w7 (.int .i64 s.tapes) (.int .i64 s.start) (.slice (some ⟨M7, 0, none⟩) s.accept.length s.accept.length) (.slice (some ⟨M7 + 1, 0, none⟩) s.next.length s.next.length) 29)
        have K7w := K6.out.step hb
        have hlt7 := K7w.lt
        obtain ⟨⟨k0, k1, k2, k3⟩, -⟩ := K7w
        clear hb ho l0 l1 l2 l3 hlt
        go_wp2_with fail
        refine (HIP.out _ _ _ O7.out.reads Q7.out.reads).mono ?_
        rintro e w8 ⟨rfl, hb⟩
        have B8 := Lib.hid (base_step B7.out hb)
        have F8 := Lib.hid (F7.out.step hb)
        have G8 := Lib.hid (G7.out.step hb)
        have O8 := Lib.hid (O7.out.step hb)
        have Q8 := Lib.hid (Q7.out.step hb)
        have K8 := Lib.hid (K7.out.step hb)
        have L8 := Lib.hid (L7.out.step hb)
        clear hb k0 k1 k2 k3 hlt7
        obtain ⟨X6, hX6⟩ : ∃ X, X = w6.heap.size := ⟨_, rfl⟩
        rw [← hX6] at K8
        rw [← hX6]
        obtain ⟨X7, hX7⟩ : ∃ X, X = w7.heap.size := ⟨_, rfl⟩
        rw [← hX7] at L8
        rw [← hX7]
        clear hX6 hX7
        obtain ⟨⟨k0, k1, k2, k3⟩, -⟩ := F8.out
        obtain ⟨⟨q0, q1, q2, q3⟩, -⟩ := K8.out
        go_wp2_with fail
        go_region_with (first
          | (go_at_call 10; refine (copyOwn _ r _ w.heap.size (HRW.out _ B8.out.drew) B8.out.drew.size SH.out).mono ?_; rintro e w9 ⟨M9, rfl, ho, hb⟩; have B9 := Lib.hid (base_step B8.out.drew hb); have G9 := Lib.hid (G8.out.drew.step hb); have O9 := Lib.hid (O8.out.drew.step hb); have Q9 := Lib.hid (Q8.out.drew.step hb); have K9 := Lib.hid (K8.out.drew.step hb); have L9 := Lib.hid (L8.out.drew.step hb); have P9 := Lib.hid ho; obtain ⟨⟨p0, p1, p2, p3⟩, -⟩ := K9.out; clear hb ho)
          | (go_at_call 12; refine (eqRelation _ _ r r w9 w9.heap.size O9.out.reads P9.out.reads (Nat.le_refl _)).mono ?_; rw [sameRel_self]; rintro e w10 ⟨rfl, hb⟩; have B10 := Lib.hid (base_step B9.out hb); have G10 := Lib.hid (G9.out.step hb); have Q10 := Lib.hid (Q9.out.step hb); have L10 := Lib.hid (L9.out.step hb); clear hb p0 p1 p2 p3))
        all_goals
          clear k0 k1 k2 k3 q0 q1 q2 q3
          obtain ⟨⟨l0, l1, l2, l3⟩, -⟩ := G10.out
          obtain ⟨⟨q0, q1, q2, q3⟩, -⟩ := L10.out
          go_wp2_with fail
          go_region_with (first
            | (go_at_call 10; refine (copyOwn _ s _ w.heap.size (HSW.out _ B10.out.drew) B10.out.drew.size SH2.out).mono ?_; rintro e w11 ⟨M11, rfl, ho, hb⟩; have B11 := Lib.hid (base_step B10.out.drew hb); have Q11 := Lib.hid (Q10.out.drew.step hb); have L11 := Lib.hid (L10.out.drew.step hb); have P11 := Lib.hid ho; obtain ⟨⟨p0, p1, p2, p3⟩, -⟩ := L11.out; clear hb ho)
            | (go_at_call 12; refine (eqRelation _ _ s s w11 w11.heap.size Q11.out.reads P11.out.reads (Nat.le_refl _)).mono ?_; rw [sameRel_self]; rintro e w12 ⟨rfl, hb⟩; have B12 := Lib.hid (base_step B11.out hb); clear hb p0 p1 p2 p3))
          all_goals
            go_wp2_with fail
            go_ret
            exact ⟨rfl, B12.out⟩
end Go.Proofs.Ytpnlocnbcdgamaa.LawIsContained
