
/- What the model answers that is asked whether two relations are equal.
   Conditions: the relations are read as XMem's text says. -/
import Derived.Test.YtaebeglcoghehaaCN13
import Derived.Test.YtaebeglcoghehaaCN9
import Derived.Test.YtaebeglcoghehaaCN20
import Derived.Test.YtaebeglcoghehaaCN26
import Derived.Test.YtaebeglcoghehaaCN15
import Derived.Test.YtaebeglcoghehaaCN24
import Derived.Test.YtaebeglcoghehaaCN22
import Derived.Test.YtaebeglcoghehaaCN23
import Derived.Test.YtaebeglcoghehaaCN5
import Derived.Lib.SmallJoins
import Derived.Deep.Matrix
import Derived.Deep.Grids
namespace Go.Proofs.Ytaebeglcoghehaa.EqS
set_option linter.unusedVariables false
set_option linter.unusedSimpArgs false
set_option linter.ambiguousOpen false
set_option maxRecDepth 100000
open Go.RowKit Mem Copy Rel Valid Heap Columns Bld ToL TidyMath TidyClass TidyAuto TidyRight SpecFiner SpecRight SpecTidied First FirstTidy FirstW SameRel Alike EqI

/-- An argument's box is a relation behind a pointer. -/
theorem box_ptr {w W : World} {B b : Nat} {va vn : Value} {r : R} (h : RelAt w B (.agg #[.int .i64 r.tapes, .int .i64 r.start, va, vn]) r) (hB : B ≤ w.heap.size) (hb : Below w.heap.size w W) (hx : W.heap[b]? = some (.cells #[.int .i64 r.tapes, .int .i64 r.start, va, vn] 29 (0, 0))) : RelPtr W W.heap.size b r := by
  obtain ⟨va', vn', e, ha, hn⟩ := h
  simp at e
  obtain ⟨rfl, rfl⟩ := e
  have y0 := cells_get hx 0
  have y1 := cells_get hx 1
  have y2 := cells_get hx 2
  have y3 := cells_get hx 3
  simp at y0 y1 y2 y3
  exact ⟨_, _, y0, y1, y2, y3, (ha.below hb hB).mono (Nat.le_trans hB hb.size), (hn.below hb hB).mono (Nat.le_trans hB hb.size)⟩

theorem same_iff (l m : L) (hl : l.Ok) (hm : m.Ok) (hk : l.k = m.k) : sameRel ⟨l.k, 0, tidyAcc l, tidyNext l⟩ ⟨m.k, 0, tidyAcc m, tidyNext m⟩ = !(firstPP ne2 l m).isSome := by
  have h1 := tidy_iff hl hm hk
  by_cases he : tidyAcc l = tidyAcc m ∧ tidyNext l = tidyNext m
  · have hn : firstPP ne2 l m = none := firstPP_none fun p hp hg => by rw [h1.1 he p hp] at hg; simp [ne2] at hg
    rw [hn]
    simp [sameRel, same, he.1, he.2, hk]
  · have hs : ∃ p, Low (wide l.k) p ∧ ne2 (Tk l p) (Tk m p) = true := by
      apply Classical.byContradiction
      intro hno
      refine he (h1.2 fun p hp => ?_)
      apply Classical.byContradiction
      intro hne
      exact hno ⟨p, hp, by simp [ne2]; exact hne⟩
    obtain ⟨p, hp, hg⟩ := hs
    obtain ⟨u, hu⟩ := least_of (wide l.k) (fun p => ne2 (Tk l p) (Tk m p) = true) p hp hg
    rw [firstPP_some hu]
    have : ¬ (tidyAcc l = tidyAcc m) ∨ ¬ (tidyNext l = tidyNext m) := by
      by_cases ha : tidyAcc l = tidyAcc m
      · exact .inr fun hn => he ⟨ha, hn⟩
      · exact .inl ha
    rcases this with h | h <;> simp [sameRel, same, h]
where
  least_of (k : Nat) (P : List Nat → Prop) (p : List Nat) (hp : Low k p) (h : P p) : ∃ u, First.Lst k P u := by
    have : ∀ n, ∀ p, Low k p → P p → nm k p ≤ n → ∃ u, First.Lst k P u := by
      intro n
      induction n with
      | zero => exact fun p hp h hn => ⟨p, hp, h, fun v _ hl => by omega⟩
      | succ n ih =>
        intro p hp h hn
        by_cases hex : ∃ v, Low k v ∧ nm k v < nm k p ∧ P v
        · obtain ⟨v, hv, hl, hP⟩ := hex
          exact ih v hv hP (by omega)
        · exact ⟨p, hp, h, fun v hv hl hP => hex ⟨v, hv, hl, hP⟩⟩
    exact this _ p hp h (Nat.le_refl _)

end Go.Proofs.Ytaebeglcoghehaa.EqS
/- What the model answers that is asked whether a relation lies in another.
   Conditions: the relations are read as XMem's text says. -/
namespace Go.Proofs.Ytaebeglcoghehaa.ContS
set_option linter.unusedVariables false
set_option linter.unusedSimpArgs false
set_option linter.ambiguousOpen false
set_option maxRecDepth 100000
open Go.RowKit Mem Copy Rel Valid Heap Columns Bld ToL TidyMath TidyClass TidyAuto TidyRight SpecFiner SpecRight SpecTidied PairMath First FirstTidy FirstI FirstW FirstK FirstS Alike EqI EqS ContI ResKit

/-- A built relation in a block is a relation behind a pointer. -/
theorem built_ptr {W : World} {B X : Nat} {k st : Int} {va vn : Value} {A : List Bool} {N : List (List Int)} (hb : Built W B va vn A N) (hat : W.heap[X]? = some (.cells #[.int .i64 k, .int .i64 st, va, vn] 29 (0, 0))) : RelPtr W W.heap.size X ⟨k, st, A, N⟩ := by
  obtain ⟨va', vn', ev, hva, hvn⟩ := hb.reads W.heap.size (Nat.le_refl _) 0 0
  simp at ev
  obtain ⟨rfl, rfl⟩ := ev
  have y0 := cells_get hat 0
  have y1 := cells_get hat 1
  have y2 := cells_get hat 2
  have y3 := cells_get hat 3
  simp at y0 y1 y2 y3
  exact ⟨_, _, y0, y1, y2, y3, hva, hvn⟩

set_option maxHeartbeats 8000000 in
theorem specContained (v u : Value) (r s : R) (w : World) (B : Nat) (h : RelAt w B v r) (h' : RelAt w B u s) (hB : B ≤ w.heap.size) :
    Calls Try.prog 81 #[v, u] w fun e w' => e = .returned (.tuple #[.bool (liesV r s), .int .i64 (alikeC r s)]) ∧ Below w.heap.size w w' := by
  have hR := h
  have hS := h'
  obtain ⟨va, vn, rfl, ha, hn⟩ := h
  obtain ⟨aa1, ba, oa, ca1, rfl, -, -, -⟩ := ha
  obtain ⟨-, ⟨ab1, bb, ob, cb1, rfl, -, -, -⟩, -⟩ := hn
  obtain ⟨va, vn, rfl, ha, hn⟩ := h'
  obtain ⟨aa2, ba, oa, ca2, rfl, -, -, -⟩ := ha
  obtain ⟨-, ⟨ab2, bb, ob, cb2, rfl, -, -, -⟩, -⟩ := hn
  obtain ⟨c, hc⟩ : ∃ c : Array Value, c = #[.int .i64 r.tapes, .int .i64 r.start, .slice aa1 r.accept.length ca1, .slice ab1 r.next.length cb1] := ⟨_, rfl⟩
  obtain ⟨d, hd⟩ : ∃ d : Array Value, d = #[.int .i64 s.tapes, .int .i64 s.start, .slice aa2 s.accept.length ca2, .slice ab2 s.next.length cb2] := ⟨_, rfl⟩
  have HP1 := Lib.hid (fun W (hk : K2 w c d W) => box_ptr hR hB (K2.base hk) (by rw [← hc]; exact K2.box1 hk))
  have HP2 := Lib.hid (fun W (hk : K2 w c d W) => box_ptr hS hB (K2.base hk) (by rw [← hd]; exact K2.box2 hk))
  have HTW := Lib.hid (fun W (hk : K2 w c d W) => twoS r s w.heap.size (w.heap.size + 1) W W.heap.size (HP1.out W hk) (HP2.out W hk))
  have HTI := Lib.hid (fun (h0 : alikeC r s = 0) => (show ((toL r).Ok ∧ relOf (toL r) = r ∧ (toL r).acc.length ≤ 150) ∧ ((toL s).Ok ∧ relOf (toL s) = s ∧ (toL s).acc.length ≤ 150) ∧ (toL r).k = (toL s).k from by
    obtain ⟨h1, h2, h3⟩ := alike_of h0
    have e1 := okL' h1
    have e2 := okL' h2
    exact ⟨⟨e1.1.2, e1.1.1, e1.2⟩, ⟨e2.1.2, e2.1.1, e2.2⟩, by show r.tapes.toNat = s.tapes.toNat; rw [h3]⟩))
  have HT1 := Lib.hid (fun (h0 : alikeC r s = 0) W (hk : K2 w c d W) => tidied (toL r) (HTI.out h0).1.1 w.heap.size W W.heap.size (by rw [(HTI.out h0).1.2.1]; exact HP1.out W hk) (Nat.le_refl _) (by have := K2.size hk; omega) (by have := (HTI.out h0).1.2.2; omega))
  have HT2 := Lib.hid (fun (h0 : alikeC r s = 0) W (hk : K2 w c d W) => tidied (toL s) (HTI.out h0).2.1.1 (w.heap.size + 1) W W.heap.size (by rw [(HTI.out h0).2.1.2.1]; exact HP2.out W hk) (Nat.le_refl _) (by have := K2.size hk; omega) (by have := (HTI.out h0).2.1.2.2; omega))
  have HV0 := Lib.hid (show alikeC r s ≠ 0 → liesV r s = false from fun h0 => by unfold liesV; rw [decide_eq_false h0]; rfl)
  have HV1 := Lib.hid (show alikeC r s = 0 → liesV r s = !apartB lf2 r s from fun h0 => by unfold liesV; rw [decide_eq_true h0]; rfl)
  have HPL := Lib.hid (fun (h0 : alikeC r s = 0) => (show (pairL lf2 (tidL (toL r)) (tidL (toL s))).acc.length = (tidyAcc (toL r)).length * (tidyAcc (toL s)).length ∧ (tidyAcc (toL r)).length * (tidyAcc (toL s)).length ≤ 2000000 from by
    obtain ⟨h1, h2, h3⟩ := HTI.out h0
    refine ⟨pairL_len lf2 (tidL (toL r)) (tidL (toL s)), ?_⟩
    have e1 : (tidyAcc (toL r)).length ≤ 1201 := by have := tidyAcc_len h1.1; have := h1.2.2; omega
    have e2 : (tidyAcc (toL s)).length ≤ 1201 := by have := tidyAcc_len h2.1; have := h2.2.2; omega
    exact Nat.le_trans (Nat.mul_le_mul e1 e2) (by decide)))
  have HP3 := Lib.hid (fun (h0 : alikeC r s = 0) W X Y (h1 : RelPtr W W.heap.size X ⟨(toL r).k, 0, tidyAcc (toL r), tidyNext (toL r)⟩) (h2 : RelPtr W W.heap.size Y ⟨(toL s).k, 0, tidyAcc (toL s), tidyNext (toL s)⟩) (hX : X < W.heap.size) (hY : Y < W.heap.size) => PairSB.pairsWithout (tidL (toL r)) (tidL (toL s)) (tidL_ok (HTI.out h0).1.1) (tidL_ok (HTI.out h0).2.1.1) (HTI.out h0).2.2 X Y W W.heap.size (by rw [tidL_rel]; exact h1) (by rw [tidL_rel]; exact h2) (Nat.le_refl _) hX hY (HPL.out h0).2)
  have HF3 := Lib.hid (fun (h0 : alikeC r s = 0) W X (h1 : RelPtr W W.heap.size X (relOf (pairL lf2 (tidL (toL r)) (tidL (toL s))))) (hX : X < W.heap.size) => show Calls Try.prog 110 #[.pointer (some ⟨X, 0, none⟩)] W fun e w' => ∃ a n c, e = .returned (.tuple #[.slice a n c, .bool (apartB lf2 r s)]) ∧ Below W.heap.size W w' from by
    obtain ⟨e1, e2, e3⟩ := HTI.out h0
    refine (FirstS.first (pairL lf2 (tidL (toL r)) (tidL (toL s))) (pairL_ok lf2 (tidL_ok e1.1) (tidL_ok e2.1) e3) X W W.heap.size h1 (Nat.le_refl _) hX (by rw [(HPL.out h0).1]; exact Nat.le_trans (HPL.out h0).2 (by decide))).mono fun e w' hans => ?_
    have hfx : firstX (pairL lf2 (tidL (toL r)) (tidL (toL s))) = firstPP lf2 (toL r) (toL s) := firstX_congr (l := toL r) (m := toL s) rfl (fun p hp => takes_pair lf2 e1.1 e2.1 e3 p hp)
    unfold apartB
    rw [← hfx]
    rcases hans with ⟨vc, c, h1, -, h3, h4, h5⟩ | ⟨h1, a, c, h2, h3⟩
    · obtain ⟨a5, n5, c5, rfl, -⟩ := h4.shape'
      exact ⟨a5, n5, c5, by rw [h3, h1]; rfl, h5⟩
    · exact ⟨a, 0, c, by rw [h2, h1]; rfl, h3⟩)
  obtain ⟨AP, hAP⟩ : ∃ x, x = apartB lf2 r s := ⟨_, rfl⟩
  rw [← hAP] at HV1 HF3
  clear hAP HPL
  obtain ⟨PK, hPK⟩ : ∃ x : Nat, x = (pairL lf2 (tidL (toL r)) (tidL (toL s))).k := ⟨_, rfl⟩
  obtain ⟨PS, hPS⟩ : ∃ x : Nat, x = (pairL lf2 (tidL (toL r)) (tidL (toL s))).start := ⟨_, rfl⟩
  obtain ⟨PA, hPA⟩ : ∃ x, x = (pairL lf2 (tidL (toL r)) (tidL (toL s))).acc := ⟨_, rfl⟩
  obtain ⟨PN, hPN⟩ : ∃ x, x = (relOf (pairL lf2 (tidL (toL r)) (tidL (toL s)))).next := ⟨_, rfl⟩
  have HJR := Lib.hid (show relOf (pairL lf2 (tidL (toL r)) (tidL (toL s))) = ⟨PK, PS, PA, PN⟩ from by rw [hPK, hPS, hPA, hPN]; rfl)
  have HP4 := Lib.hid (show ∀ (h0 : alikeC r s = 0) (W : World) X Y (h1 : RelPtr W W.heap.size X ⟨(toL r).k, 0, tidyAcc (toL r), tidyNext (toL r)⟩) (h2 : RelPtr W W.heap.size Y ⟨(toL s).k, 0, tidyAcc (toL s), tidyNext (toL s)⟩) (hX : X < W.heap.size) (hY : Y < W.heap.size), Calls Try.prog 118 #[.pointer (some ⟨X, 0, none⟩), .pointer (some ⟨Y, 0, none⟩), .int .i64 3] W fun e w' => ∃ va vn, e = .returned (.agg #[.int .i64 PK, .int .i64 PS, va, vn]) ∧ Built w' W.heap.size va vn PA PN ∧ Below W.heap.size W w' from fun h0 W X Y h1 h2 hX hY => by
    rw [hPK, hPS, hPA, hPN]
    exact HP3.out h0 W X Y h1 h2 hX hY)
  rw [HJR.out] at HF3
  clear HJR HP3 hPK hPS hPA hPN
  obtain ⟨V, hV⟩ : ∃ x, x = liesV r s := ⟨_, rfl⟩
  obtain ⟨C, hC⟩ : ∃ x, x = alikeC r s := ⟨_, rfl⟩
  rw [← hC] at HTW HT1 HT2 HV0 HV1 HF3 HP4
  rw [← hV] at HV0 HV1
  rw [← hV, ← hC]
  obtain ⟨k1, hk1⟩ : ∃ x : Int, x = (toL r).k := ⟨_, rfl⟩
  obtain ⟨k2, hk2⟩ : ∃ x : Int, x = (toL s).k := ⟨_, rfl⟩
  obtain ⟨A1, hA1⟩ : ∃ x, x = tidyAcc (toL r) := ⟨_, rfl⟩
  obtain ⟨A2, hA2⟩ : ∃ x, x = tidyAcc (toL s) := ⟨_, rfl⟩
  obtain ⟨N1, hN1⟩ : ∃ x, x = tidyNext (toL r) := ⟨_, rfl⟩
  obtain ⟨N2, hN2⟩ : ∃ x, x = tidyNext (toL s) := ⟨_, rfl⟩
  rw [← hk1, ← hA1, ← hN1] at HT1
  rw [← hk2, ← hA2, ← hN2] at HT2
  rw [← hk1, ← hk2, ← hA1, ← hA2, ← hN1, ← hN2] at HP4
  clear hV hC hk1 hk2 hA1 hA2 hN1 hN2 hR hS HTI HP1 HP2 hB
  have HK0 := Lib.hid (show K2 w c d ((w.alloc (.cells c 29)).alloc (.cells d 29)) from Below.refl _ _)
  have HC0 := Lib.hid (HTW.out _ HK0.out)
  rw [hc, hd] at HC0
  go_enter Try.func81, Try.ntmps81
  go_wp2_with fail
  refine HC0.out.mono ?_
  rw [← hc, ← hd]
  rintro e w3 ⟨rfl, q, rfl⟩
  have HK3 := Lib.hid (show K2 w c d (((w.alloc (.cells c 29)).alloc (.cells d 29)).drewN q) from below_drewN (Below.refl _ _) q)
  generalize ((w.alloc (.cells c 29)).alloc (.cells d 29)).drewN q = w3 at HK3 ⊢
  clear HC0 HK0 HTW hc hd
  by_cases h0 : C = 0
  · have HC1 := Lib.hid (HT1.out h0 w3 HK3.out)
    have HCT := Lib.hid (HT2.out h0)
    have HVE := Lib.hid (HV1.out h0)
    have HPP := Lib.hid (HP4.out h0)
    have HFF := Lib.hid (HF3.out h0)
    subst h0
    clear HT1 HT2 HV0 HV1 HP4 HF3
    go_wp2_with fail
    refine HC1.out.mono ?_
    rintro e w4 ⟨va, vn, rfl, hbu, hb4⟩
    have HK4 := Lib.hid (show K2 w c d w4 from Below.trans HK3.out (hb4.mono (K2.size HK3.out)))
    have HBU4 := Lib.hid hbu
    obtain ⟨a3, n3, c3, rfl, -⟩ := hbu.acc.shape'
    obtain ⟨items3, -, hnx3, -⟩ := hbu.rows
    obtain ⟨b3, m3, d3, rfl, -⟩ := hnx3.shape'
    have HK5 := Lib.hid (show K2 w c d (w4.alloc (.cells #[.int .i64 k1, .int .i64 0, .slice a3 n3 c3, .slice b3 m3 d3] 29)) from Below.alloc HK4.out (K2.size HK4.out) _)
    have HC2 := Lib.hid (HCT.out _ HK5.out)
    clear hbu hb4 hnx3 HC1 HCT
    go_wp2_with fail
    refine HC2.out.mono ?_
    rintro e w5 ⟨va, vn, rfl, hbu, hb5⟩
    have HK6 := Lib.hid (show K2 w c d w5 from Below.trans HK5.out (hb5.mono (K2.size HK5.out)))
    have hs5 := hb5.size
    rw [size_alloc'] at hbu hb5 hs5
    have HBU5 := Lib.hid hbu
    have HLB := Lib.hid (show w5.heap[w4.heap.size]? = some (.cells #[.int .i64 k1, .int .i64 0, .slice a3 n3 c3, .slice b3 m3 d3] 29 (0, 0)) from (hb5.block _ (Nat.lt_succ_self _)).trans (heap_alloc_new _ _))
    have HB45 := Lib.hid (show Below w4.heap.size w4 w5 from ((Below.refl _ _).alloc (Nat.le_refl _) _).trans (hb5.mono (Nat.le_succ _)))
    have HS45 := Lib.hid (show w4.heap.size < w5.heap.size from hs5)
    obtain ⟨a5, n5, c5, rfl, -⟩ := hbu.acc.shape'
    obtain ⟨items5, -, hnx5, -⟩ := hbu.rows
    obtain ⟨b5, m5, d5, rfl, -⟩ := hnx5.shape'
    have HB5A := Lib.hid (show Below w5.heap.size w5 (w5.alloc (.cells #[.int .i64 k2, .int .i64 0, .slice a5 n5 c5, .slice b5 m5 d5] 29)) from (Below.refl _ _).alloc (Nat.le_refl _) _)
    have HC3 := Lib.hid (HPP.out (w5.alloc (.cells #[.int .i64 k2, .int .i64 0, .slice a5 n5 c5, .slice b5 m5 d5] 29)) w4.heap.size w5.heap.size (built_ptr (HBU4.out.below (HB45.out.trans (HB5A.out.mono HB45.out.size))) ((Below.heap_alloc _ _ _ HS45.out).trans HLB.out)) (built_ptr (HBU5.out.below HB5A.out) (heap_alloc_new _ _)) (by rw [size_alloc']; have := HS45.out; omega) (by rw [size_alloc']; exact Nat.lt_succ_self _))
    have HKA := Lib.hid (show K2 w c d (w5.alloc (.cells #[.int .i64 k2, .int .i64 0, .slice a5 n5 c5, .slice b5 m5 d5] 29)) from Below.alloc HK6.out (K2.size HK6.out) _)
    clear hbu hb5 hs5 hnx5 HC2 HPP
    go_wp2_with fail
    refine HC3.out.mono ?_
    rintro e w7 ⟨va, vn, rfl, hbu, hb7⟩
    have HK7 := Lib.hid (show K2 w c d w7 from Below.trans HKA.out (hb7.mono (K2.size HKA.out)))
    have HBU7 := Lib.hid hbu
    obtain ⟨a7, n7, c7, rfl, -⟩ := hbu.acc.shape'
    obtain ⟨items7, -, hnx7, -⟩ := hbu.rows
    obtain ⟨b7, m7, d7, rfl, -⟩ := hnx7.shape'
    have HC4 := Lib.hid (HFF.out (w7.alloc (.cells #[.int .i64 PK, .int .i64 PS, .slice a7 n7 c7, .slice b7 m7 d7] 29)) w7.heap.size (built_ptr (HBU7.out.below ((Below.refl _ _).alloc (Nat.le_refl _) _)) (heap_alloc_new _ _)) (by rw [size_alloc']; exact Nat.lt_succ_self _))
    have HK8 := Lib.hid (show K2 w c d (w7.alloc (.cells #[.int .i64 PK, .int .i64 PS, .slice a7 n7 c7, .slice b7 m7 d7] 29)) from Below.alloc HK7.out (K2.size HK7.out) _)
    clear hbu hb7 hnx7 HC3 HFF
    go_wp2_with fail
    refine HC4.out.mono ?_
    rintro e w9 ⟨a9, n9, c9, rfl, hb9⟩
    have HB9 := Lib.hid (show Below w.heap.size w w9 from K2.base (Below.trans HK8.out (hb9.mono (K2.size HK8.out))))
    clear hb9 HC4
    go_wp2_with fail
    go_ret2
    exact ⟨by rw [HVE.out]; rfl, HB9.out⟩
  · obtain rfl := HV0.out h0
    clear HT1 HT2 HV0 HV1 HP4 HF3
    have hcne : (C != 0) = true := by simpa using h0
    go_wp2_with fail
    go_ret2
    exact ⟨rfl, K2.base HK3.out⟩
end Go.Proofs.Ytaebeglcoghehaa.ContS
/- What the model answers that is asked whether a relation is a set of numbers.
   Conditions: the relation is read as XMem's text says. -/
namespace Go.Proofs.Ytaebeglcoghehaa.NumSetS
set_option linter.unusedVariables false
set_option linter.unusedSimpArgs false
set_option linter.ambiguousOpen false
set_option maxRecDepth 100000
open Go.RowKit Mem Copy Rel Valid Heap Columns Bld ToL TidyMath TidyClass TidyAuto TidyRight SpecFiner SpecRight SpecTidied PairMath Alike EqI EqS ContI NumDom NumSetI ResKit

set_option maxHeartbeats 8000000 in
theorem isS (r : R) (hok : okB r = true) (bp : Nat) (w : World) (B : Nat) (h : RelPtr w B bp r) (hB : B ≤ w.heap.size) (hbp : bp < w.heap.size) :
    Calls Try.prog 36 #[.pointer (some ⟨bp, 0, none⟩)] w fun e w' => e = .returned (.bool (numV r)) ∧ Below w.heap.size w w' := by
  have HW := Lib.hid (fun h1 => (num_wide hok h1).1)
  have HO := Lib.hid (fun h1 => num_one hok h1)
  have HCS := Lib.hid (fun W u v (hv : RelAt W W.heap.size v r) (hu : RelAt W W.heap.size u domR) => show Calls Try.prog 81 #[v, u] W fun e w' => e = .returned (.tuple #[.bool (numV r), .int .i64 (numC r)]) ∧ Below W.heap.size W w' from
    ContS.specContained v u r domR W W.heap.size hv hu (Nat.le_refl _))
  obtain ⟨va, vn, y0, y1, y2, y3, hva, hvn⟩ := h
  have HAT := Lib.hid (fun W (hb : Below w.heap.size w W) => show RelAt W W.heap.size (.agg #[.int .i64 r.tapes, .int .i64 r.start, va, vn]) r from ⟨va, vn, rfl, (hva.below hb hB).mono (Nat.le_trans hB hb.size), (hvn.below hb hB).mono (Nat.le_trans hB hb.size)⟩)
  obtain ⟨aa1, ba, oa, ca1, rfl, -, -, -⟩ := hva
  obtain ⟨-, ⟨ab1, bb, ob, cb1, rfl, -, -, -⟩, -⟩ := hvn
  obtain ⟨V, hV⟩ : ∃ x, x = numV r := ⟨_, rfl⟩
  obtain ⟨C, hC⟩ : ∃ x, x = numC r := ⟨_, rfl⟩
  obtain ⟨k1, hk⟩ : ∃ x, x = r.tapes := ⟨_, rfl⟩
  obtain ⟨st1, hst⟩ : ∃ x, x = r.start := ⟨_, rfl⟩
  obtain ⟨na1, hna⟩ : ∃ x, x = r.accept.length := ⟨_, rfl⟩
  obtain ⟨nb1, hnb⟩ : ∃ x, x = r.next.length := ⟨_, rfl⟩
  rw [← hV] at HW HCS ⊢
  rw [← hC] at HO HCS
  rw [← hk] at HW HO HAT y0
  rw [← hst] at HAT y1
  rw [← hna] at HAT y2
  rw [← hnb] at HAT y3
  clear hk hst hna hnb hV hC hB hok
  have HCC := Lib.hid (fun W u (hb : Below w.heap.size w W) (hu : RelAt W W.heap.size u domR) => HCS.out W u _ (HAT.out W hb) hu)
  have HNT := Lib.hid (fun W => specDomain W)
  clear HCS HAT
  go_enter Try.func36, Try.ntmps36
  by_cases h1 : k1 = 1
  · obtain rfl := HO.out h1
    subst h1
    clear HW HO
    go_wp2_with fail
    go_region_with (first
      | (go_at_call 82; refine (HNT.out _).mono ?_; rintro e w4 ⟨va4, vn4, rfl, hbu, hb4⟩; have HB4 := Lib.hid (show Below w.heap.size w w4 from (below_drewN (Below.refl _ w) 1).trans hb4); have HR4 := Lib.hid (hbu.reads w4.heap.size (Nat.le_refl _) (1 : Int) 0); have z0 := (HB4.out.cell (p := ⟨bp, 0, none⟩) hbp).trans y0; have z1 := (HB4.out.cell (p := ⟨bp, 1, none⟩) hbp).trans y1; have z2 := (HB4.out.cell (p := ⟨bp, 2, none⟩) hbp).trans y2; have z3 := (HB4.out.cell (p := ⟨bp, 3, none⟩) hbp).trans y3; have hl := HB4.out.size; clear hbu hb4)
      | (go_at_call 81; refine (HCC.out _ _ HB4.out HR4.out).mono ?_; rintro e w5 ⟨rfl, hb5⟩; have HB5 := Lib.hid (HB4.out.trans (hb5.mono HB4.out.size)); clear hb5))
    all_goals cases V
    all_goals go_wp2
    all_goals go_ret
    all_goals exact ⟨rfl, HB5.out⟩
  · have hne : (k1 != 1) = true := by simpa using h1
    obtain rfl := HW.out h1
    clear HW HO HCC HNT
    go_wp2_with fail
    go_ret
    exact ⟨rfl, Below.refl _ _⟩

set_option maxHeartbeats 8000000 in
theorem numSetS (v : Value) (r : R) (w : World) (B : Nat) (h : RelAt w B v r) (hB : B ≤ w.heap.size) :
    Calls Try.prog 10 #[v] w fun e w' => e = .returned (.tuple #[.bool (numV r), .int .i64 (numC r)]) ∧ Below w.heap.size w w' := by
  have hR := h
  obtain ⟨va, vn, rfl, ha, hn⟩ := h
  obtain ⟨aa1, ba, oa, ca1, rfl, -, -, -⟩ := ha
  obtain ⟨-, ⟨ab1, bb, ob, cb1, rfl, -, -, -⟩, -⟩ := hn
  obtain ⟨c, hc⟩ : ∃ c : Array Value, c = #[.int .i64 r.tapes, .int .i64 r.start, .slice aa1 r.accept.length ca1, .slice ab1 r.next.length cb1] := ⟨_, rfl⟩
  have HP1 := Lib.hid (fun W (hk : E1 w c W) => box_ptr hR hB (E1.base hk) (by rw [← hc]; exact E1.box hk))
  have HV1 := Lib.hid (fun W (hk : E1 w c W) => specOk r w.heap.size W W.heap.size (HP1.out W hk))
  have HIS := Lib.hid (fun (h0 : okB r = true) W (hk : E1 w c W) => isS r h0 w.heap.size W W.heap.size (HP1.out W hk) (Nat.le_refl _) (by have := E1.size hk; omega))
  have HE0 := Lib.hid (show okB r = false → numV r = false ∧ numC r = 1 from num_bad)
  have HE1 := Lib.hid (show okB r = true → r.tapes ≠ 1 → numV r = false ∧ numC r = 2 from num_wide)
  have HE2 := Lib.hid (show okB r = true → r.tapes = 1 → numC r = 0 from num_one)
  obtain ⟨V, hV⟩ : ∃ x, x = numV r := ⟨_, rfl⟩
  obtain ⟨C, hC⟩ : ∃ x, x = numC r := ⟨_, rfl⟩
  obtain ⟨q, hq⟩ : ∃ x, x = okB r := ⟨_, rfl⟩
  rw [← hV, ← hC] at HE0 HE1
  rw [← hC] at HE2
  rw [← hV] at HIS
  rw [← hq] at HV1 HIS HE0 HE1 HE2
  rw [← hV, ← hC]
  obtain ⟨k1, hk1⟩ : ∃ x : Int, x = r.tapes := ⟨_, rfl⟩
  rw [← hk1] at HE1 HE2
  have HK1 := Lib.hid hk1
  clear hV hC hq hk1 hR HP1 hB
  have HK0 := Lib.hid (show E1 w c (w.alloc (.cells c 29)) from Below.refl _ _)
  have HC0 := Lib.hid (HV1.out _ HK0.out)
  rw [hc] at HC0
  have HCE := Lib.hid hc
  go_enter Try.func10, Try.ntmps10
  go_wp2_with fail
  refine HC0.out.mono ?_
  rw [← hc]
  rintro e w3 ⟨rfl, m, rfl⟩
  have HK3 := Lib.hid (show E1 w c ((w.alloc (.cells c 29)).drewN m) from below_drewN (Below.refl _ _) m)
  generalize (w.alloc (.cells c 29)).drewN m = w3 at HK3 ⊢
  clear HC0 HK0 HV1 hc
  cases q with
  | false =>
    obtain ⟨rfl, rfl⟩ := HE0.out rfl
    clear HIS HE0 HE1 HE2
    go_wp2_with fail
    go_ret2
    exact ⟨rfl, E1.base HK3.out⟩
  | true =>
    have HC1 := Lib.hid (HIS.out rfl w3 HK3.out)
    have hbx := E1.box HK3.out
    have x0 := cells_get hbx 0
    rw [HCE.out, ← HK1.out] at x0
    have hl := E1.size HK3.out
    simp at x0
    clear hbx HIS HE0
    by_cases h1 : k1 = 1
    · obtain rfl := HE2.out rfl h1
      subst h1
      clear HE1 HE2
      go_wp2_with fail
      refine HC1.out.mono ?_
      rintro e w5 ⟨rfl, hb5⟩
      have HB5 := Lib.hid (E1.base (E1.go HK3.out hb5))
      clear hb5 HC1
      go_wp2_with fail
      go_ret2
      exact ⟨rfl, HB5.out⟩
    · have hne : (k1 != 1) = true := by simpa using h1
      obtain ⟨rfl, rfl⟩ := HE1.out rfl h1
      clear HE1 HE2 HC1
      go_wp2_with fail
      go_ret2
      exact ⟨rfl, E1.base HK3.out⟩
end Go.Proofs.Ytaebeglcoghehaa.NumSetS
/- How the arguments of the laws read in memory: relations, lists of numbers.
   Conditions: none. -/
namespace Go.Proofs.Ytaebeglcoghehaa.Readings
set_option linter.unusedVariables false
set_option maxRecDepth 20000
set_option linter.unusedSimpArgs false
open Go.RowKit Mem Rel Go.Joins Go.Deep Go.ChangeShapes Go.WideShapes

theorem Sl_of_addr {w : World} {a : Addr} {n cap : Nat} {f : Nat → Value} (hm : n ≤ maxLen) (h : ∀ i, i < n → w.cell? (a.add i) = some (f i)) : Sl w w.heap.size (.slice (some a) n cap) n f := by
  obtain ⟨b, off, spot⟩ := a
  by_cases h0 : n = 0
  · subst h0
    exact ⟨_, 0, 0, cap, rfl, hm, fun h => absurd h (Nat.lt_irrefl 0), fun i hi => absurd hi (Nat.not_lt_zero i)⟩
  · have hspot : spot = none := by
      have := World.cell?_spot (h 0 (by omega))
      simpa [Addr.add] using this
    subst hspot
    have hp : ∀ i, (⟨b, off, none⟩ : Addr).add i = ⟨b, off + i, none⟩ := by intro i; unfold Addr.add; split <;> simp_all
    refine ⟨_, b, off, cap, rfl, hm, fun _ => ⟨rfl, ?_⟩, fun i hi => ?_⟩
    · have := World.block_lt_of_cell? w _ (h 0 (by omega))
      rwa [hp] at this
    · have := h i hi
      rwa [hp] at this

theorem Sl_nil (w : World) (B : Nat) (a : Option Addr) (cap : Nat) (f : Nat → Value) : Sl w B (.slice a 0 cap) 0 f :=
  ⟨a, 0, 0, cap, rfl, Nat.zero_le _, fun h => absurd h (Nat.lt_irrefl 0), fun i hi => absurd hi (Nat.not_lt_zero i)⟩

section
variable {H : Type} {enc : TypeId × Value → H} {w : World}

theorem read_bools {fuel : Nat} {v : Value} {x : DataW H × List MemPlace} (h : DataW.trod enc Try.prog w 0 (fun _ => true) true fuel 22 [v] = some x) : ∃ bs, Bools w w.heap.size v bs := by
  rcases open_bools Try.underlying22 Try.underlying4 (by kernel_rfl) h with ⟨hcs, _⟩ | ⟨a, len, cap, Z, hcs, _, hl, hm, _, hcell⟩
  · simp at hcs; subst hcs
    exact ⟨[], Sl_nil _ _ _ _ _⟩
  · simp at hcs; subst hcs
    refine ⟨(List.range len).map Z, ?_⟩
    unfold Bools
    simp only [List.length_map, List.length_range]
    refine Sl_of_addr (by omega) fun i hi => ?_
    rw [hcell i (by simpa using (by omega : i < cap))]
    simp [List.getD, hi]

theorem read_rows {fuel : Nat} {v : Value} {x : DataW H × List MemPlace} (h : DataW.trod enc Try.prog w 0 (fun _ => true) true fuel 23 [v] = some x) : ∃ xss, IntRows w w.heap.size v xss := by
  rcases open_int_rows Try.underlying23 Try.underlying44 Try.underlying2 (by kernel_rfl) (by kernel_rfl) h with ⟨hcs, _⟩ | ⟨a, len, cap, A, L, C, Z, hcs, _, hl, hm, _, hcell⟩
  · simp at hcs; subst hcs
    exact ⟨[], fun _ => .slice none 0 0, Sl_nil _ _ _ _ _, fun i hi => absurd hi (Nat.not_lt_zero i)⟩
  · simp at hcs; subst hcs
    refine ⟨(List.range len).map fun r => (Z r).take (L r), fun r => .slice (A r) (L r) (C r), ?_, fun i hi => ?_⟩
    · simp only [List.length_map, List.length_range]
      exact Sl_of_addr (by omega) fun i hi => (hcell i (by omega)).1
    · simp only [List.length_map, List.length_range] at hi
      obtain ⟨_, h2, h3, h4, _, h6, h7⟩ := hcell i (by omega)
      have e : ((List.range len).map fun r => (Z r).take (L r)).getD i [] = (Z i).take (L i) := by simp [List.getD, hi]
      rw [e]
      unfold Ints
      have hlen : ((Z i).take (L i)).length = L i := by rw [List.length_take]; omega
      rw [hlen]
      show Sl w w.heap.size (.slice (A i) (L i) (C i)) (L i) _
      cases hA : A i with
      | none =>
        have := h6 hA
        have h0 : L i = 0 := by omega
        rw [h0]
        exact Sl_nil _ _ _ _ _
      | some a' =>
        refine Sl_of_addr (n := L i) (by omega) fun j hj => ?_
        rw [(h7 a' hA).2 j (by omega)]
        simp [List.getD, hj]

theorem read_rel {r : Reach} {b0 : Nat} {v : Value} {d : DataW H} {p : List MemPlace} (hv : Value.okWide Try.prog w r b0 25 v) (h : DataW.Trod enc Try.prog w 0 (fun _ => true) true 25 v d p) :
    ∃ R, RelAt w w.heap.size v R := by
  obtain ⟨v0, v1, v2, v3, y0, y1, y2, y3, n, rfl, _, _, h0, h1, h2, h3⟩ := open_agg4 Try.underlying25 (by kernel_rfl) (by kernel_rfl) hv h
  obtain ⟨t, e0, _, _⟩ := DataW.trod_int Try.underlying2 h0
  obtain ⟨s, e1, _, _⟩ := DataW.trod_int Try.underlying2 h1
  simp at e0 e1
  subst e0 e1
  obtain ⟨bs, hb⟩ := read_bools h2
  obtain ⟨xss, hx⟩ := read_rows h3
  exact ⟨⟨t, s, bs, xss⟩, v2, v3, rfl, hb, hx⟩
end
end Go.Proofs.Ytaebeglcoghehaa.Readings
