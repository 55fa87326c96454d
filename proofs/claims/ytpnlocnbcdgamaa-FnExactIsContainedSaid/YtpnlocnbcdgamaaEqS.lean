
/- What the model answers that is asked whether two relations are equal.
   Conditions: the relations are read as XMem's text says. -/
import Derived.Test.YtpnlocnbcdgamaaAlike
import Derived.Test.YtpnlocnbcdgamaaFirstTidy
import Derived.Test.YtpnlocnbcdgamaaSpecTidied
import Derived.Test.YtpnlocnbcdgamaaSameRel
import Derived.Test.YtpnlocnbcdgamaaEqI
namespace Go.Proofs.Ytpnlocnbcdgamaa.EqS
set_option linter.unusedVariables false
set_option linter.unusedSimpArgs false
set_option linter.ambiguousOpen false
set_option maxRecDepth 100000
open Go.RowKit Mem Copy Rel Valid Heap Columns Bld ToL TidyMath TidyClass TidyAuto TidyRight SpecFiner SpecRight SpecTidied First FirstTidy FirstW SameRel Alike EqI

/-- An argument's box is a relation behind a pointer. -/
theorem box_ptr {w W : World} {B b : Nat} {va vn : Value} {r : R} (h : RelAt w B (.agg #[.int .i64 r.tapes, .int .i64 r.start, va, vn]) r) (hB : B ≤ w.heap.size) (hb : Below w.heap.size w W) (hx : W.heap[b]? = some (.cells #[.int .i64 r.tapes, .int .i64 r.start, va, vn] 29 (0, 0))) : RelPtr W W.heap.size b r := by
  obtain ⟨va', vn', e, ha, hn⟩ := h
  simp at e
  obtain ⟨rfl, rfl⟩ := e
  have y0 := cells_get hx 0
  have y1 := cells_get hx 1
  have y2 := cells_get hx 2
  have y3 := cells_get hx 3
  simp at y0 y1 y2 y3
  exact ⟨_, _, y0, y1, y2, y3, (ha.below hb hB).mono (Nat.le_trans hB hb.size), (hn.below hb hB).mono (Nat.le_trans hB hb.size)⟩

theorem same_iff (l m : L) (hl : l.Ok) (hm : m.Ok) (hk : l.k = m.k) : sameRel ⟨l.k, 0, tidyAcc l, tidyNext l⟩ ⟨m.k, 0, tidyAcc m, tidyNext m⟩ = !(firstPP ne2 l m).isSome := by
  have h1 := tidy_iff hl hm hk
  by_cases he : tidyAcc l = tidyAcc m ∧ tidyNext l = tidyNext m
  · have hn : firstPP ne2 l m = none := firstPP_none fun p hp hg => by rw [h1.1 he p hp] at hg; simp [ne2] at hg
    rw [hn]
    simp [sameRel, same, he.1, he.2, hk]
  · have hs : ∃ p, Low (wide l.k) p ∧ ne2 (Tk l p) (Tk m p) = true := by
      apply Classical.byContradiction
      intro hno
      refine he (h1.2 fun p hp => ?_)
      apply Classical.byContradiction
      intro hne
      exact hno ⟨p, hp, by simp [ne2]; exact hne⟩
    obtain ⟨p, hp, hg⟩ := hs
    obtain ⟨u, hu⟩ := least_of (wide l.k) (fun p => ne2 (Tk l p) (Tk m p) = true) p hp hg
    rw [firstPP_some hu]
    have : ¬ (tidyAcc l = tidyAcc m) ∨ ¬ (tidyNext l = tidyNext m) := by
      by_cases ha : tidyAcc l = tidyAcc m
      · exact .inr fun hn => he ⟨ha, hn⟩
      · exact .inl ha
    rcases this with h | h <;> simp [sameRel, same, h]
where
  least_of (k : Nat) (P : List Nat → Prop) (p : List Nat) (hp : Low k p) (h : P p) : ∃ u, First.Lst k P u := by
    have : ∀ n, ∀ p, Low k p → P p → nm k p ≤ n → ∃ u, First.Lst k P u := by
      intro n
      induction n with
      | zero => exact fun p hp h hn => ⟨p, hp, h, fun v _ hl => by omega⟩
      | succ n ih =>
        intro p hp h hn
        by_cases hex : ∃ v, Low k v ∧ nm k v < nm k p ∧ P v
        · obtain ⟨v, hv, hl, hP⟩ := hex
          exact ih v hv hP (by omega)
        · exact ⟨p, hp, h, fun v hv hl hP => hex ⟨v, hv, hl, hP⟩⟩
    exact this _ p hp h (Nat.le_refl _)

set_option maxHeartbeats 8000000 in
theorem specEqual (v u : Value) (r s : R) (w : World) (B : Nat) (h : RelAt w B v r) (h' : RelAt w B u s) (hB : B ≤ w.heap.size) :
    Calls Try.prog 9 #[v, u] w fun e w' => e = .returned (.tuple #[.bool (eqV r s), .int .i64 (alikeC r s)]) ∧ Below w.heap.size w w' := by
  have hR := h
  have hS := h'
  obtain ⟨va, vn, rfl, ha, hn⟩ := h
  obtain ⟨aa1, ba, oa, ca1, rfl, -, -, -⟩ := ha
  obtain ⟨-, ⟨ab1, bb, ob, cb1, rfl, -, -, -⟩, -⟩ := hn
  obtain ⟨va, vn, rfl, ha, hn⟩ := h'
  obtain ⟨aa2, ba, oa, ca2, rfl, -, -, -⟩ := ha
  obtain ⟨-, ⟨ab2, bb, ob, cb2, rfl, -, -, -⟩, -⟩ := hn
  obtain ⟨c, hc⟩ : ∃ c : Array Value, c = #[.int .i64 r.tapes, .int .i64 r.start, .slice aa1 r.accept.length ca1, .slice ab1 r.next.length cb1] := ⟨_, rfl⟩
  obtain ⟨d, hd⟩ : ∃ d : Array Value, d = #[.int .i64 s.tapes, .int .i64 s.start, .slice aa2 s.accept.length ca2, .slice ab2 s.next.length cb2] := ⟨_, rfl⟩
  have HP1 := Lib.hid (fun W (hk : K2 w c d W) => box_ptr hR hB (K2.base hk) (by rw [← hc]; exact K2.box1 hk))
  have HP2 := Lib.hid (fun W (hk : K2 w c d W) => box_ptr hS hB (K2.base hk) (by rw [← hd]; exact K2.box2 hk))
  have HTW := Lib.hid (fun W (hk : K2 w c d W) => twoS r s w.heap.size (w.heap.size + 1) W W.heap.size (HP1.out W hk) (HP2.out W hk))
  have HTI := Lib.hid (fun (h0 : alikeC r s = 0) => (show ((toL r).Ok ∧ relOf (toL r) = r ∧ (toL r).acc.length ≤ 150) ∧ ((toL s).Ok ∧ relOf (toL s) = s ∧ (toL s).acc.length ≤ 150) ∧ (toL r).k = (toL s).k from by
    obtain ⟨h1, h2, h3⟩ := alike_of h0
    have e1 := okL' h1
    have e2 := okL' h2
    exact ⟨⟨e1.1.2, e1.1.1, e1.2⟩, ⟨e2.1.2, e2.1.1, e2.2⟩, by show r.tapes.toNat = s.tapes.toNat; rw [h3]⟩))
  have HT1 := Lib.hid (fun (h0 : alikeC r s = 0) W (hk : K2 w c d W) => tidied (toL r) (HTI.out h0).1.1 w.heap.size W W.heap.size (by rw [(HTI.out h0).1.2.1]; exact HP1.out W hk) (Nat.le_refl _) (by have := K2.size hk; omega) (by have := (HTI.out h0).1.2.2; omega))
  have HT2 := Lib.hid (fun (h0 : alikeC r s = 0) W (hk : K2 w c d W) => tidied (toL s) (HTI.out h0).2.1.1 (w.heap.size + 1) W W.heap.size (by rw [(HTI.out h0).2.1.2.1]; exact HP2.out W hk) (Nat.le_refl _) (by have := K2.size hk; omega) (by have := (HTI.out h0).2.1.2.2; omega))
  have HV0 := Lib.hid (show alikeC r s ≠ 0 → eqV r s = false from fun h0 => by unfold eqV; rw [decide_eq_false h0]; rfl)
  have HV1 := Lib.hid (show alikeC r s = 0 → sameRel ⟨(toL r).k, 0, tidyAcc (toL r), tidyNext (toL r)⟩ ⟨(toL s).k, 0, tidyAcc (toL s), tidyNext (toL s)⟩ = eqV r s from fun h0 => by
    obtain ⟨h1, h2, h3⟩ := HTI.out h0
    rw [same_iff _ _ h1.1 h2.1 h3]
    unfold eqV apartB
    rw [decide_eq_true h0, Bool.true_and])
  obtain ⟨V, hV⟩ : ∃ x, x = eqV r s := ⟨_, rfl⟩
  obtain ⟨C, hC⟩ : ∃ x, x = alikeC r s := ⟨_, rfl⟩
  rw [← hC] at HTW HT1 HT2 HV0 HV1
  rw [← hV] at HV0 HV1
  rw [← hV, ← hC]
  obtain ⟨k1, hk1⟩ : ∃ x : Int, x = (toL r).k := ⟨_, rfl⟩
  obtain ⟨k2, hk2⟩ : ∃ x : Int, x = (toL s).k := ⟨_, rfl⟩
  obtain ⟨A1, hA1⟩ : ∃ x, x = tidyAcc (toL r) := ⟨_, rfl⟩
  obtain ⟨A2, hA2⟩ : ∃ x, x = tidyAcc (toL s) := ⟨_, rfl⟩
  obtain ⟨N1, hN1⟩ : ∃ x, x = tidyNext (toL r) := ⟨_, rfl⟩
  obtain ⟨N2, hN2⟩ : ∃ x, x = tidyNext (toL s) := ⟨_, rfl⟩
  rw [← hk1, ← hA1, ← hN1] at HT1
  rw [← hk2, ← hA2, ← hN2] at HT2
  rw [← hk1, ← hk2, ← hA1, ← hA2, ← hN1, ← hN2] at HV1
  clear hV hC hk1 hk2 hA1 hA2 hN1 hN2 hR hS HTI HP1 HP2 hB
  have HK0 := Lib.hid (show K2 w c d ((w.alloc (.cells c 29)).alloc (.cells d 29)) from Below.refl _ _)
  have HC0 := Lib.hid (HTW.out _ HK0.out)
  rw [hc, hd] at HC0
  go_enter Try.func9, Try.ntmps9
  go_wp2_with fail
  refine HC0.out.mono ?_
  rw [← hc, ← hd]
  rintro e w3 ⟨rfl, q, rfl⟩
  have HK3 := Lib.hid (show K2 w c d (((w.alloc (.cells c 29)).alloc (.cells d 29)).drewN q) from below_drewN (Below.refl _ _) q)
  generalize ((w.alloc (.cells c 29)).alloc (.cells d 29)).drewN q = w3 at HK3 ⊢
  clear HC0 HK0 HTW hc hd
  by_cases h0 : C = 0
  · have HC1 := Lib.hid (HT1.out h0 w3 HK3.out)
    have HCT := Lib.hid (HT2.out h0)
    have HVE := Lib.hid (HV1.out h0)
    subst h0
    clear HT1 HT2 HV0 HV1
    go_wp2_with fail
    refine HC1.out.mono ?_
    rintro e w4 ⟨va4, vn4, rfl, hbu, hb4⟩
    have HK4 := Lib.hid (show K2 w c d w4 from Below.trans HK3.out (hb4.mono (K2.size HK3.out)))
    have HC2 := Lib.hid (HCT.out w4 HK4.out)
    have HB4 := Lib.hid hbu
    clear hbu hb4 HC1 HCT
    go_wp2_with fail
    refine HC2.out.mono ?_
    rintro e w5 ⟨va5, vn5, rfl, hbu, hb5⟩
    have HK5 := Lib.hid (show K2 w c d w5 from Below.trans HK4.out (hb5.mono (K2.size HK4.out)))
    have HSA := Lib.hid (specSame _ _ ⟨k1, 0, A1, N1⟩ ⟨k2, 0, A2, N2⟩ w5 w5.heap.size ((HB4.out.below hb5).reads w5.heap.size (Nat.le_refl _) k1 0) (hbu.reads w5.heap.size (Nat.le_refl _) k2 0) (Nat.le_refl _))
    rw [HVE.out] at HSA
    clear hbu hb5 HC2
    go_wp2_with fail
    refine HSA.out.mono ?_
    rintro e w6 ⟨rfl, hb6⟩
    have HB6 := Lib.hid ((K2.base HK5.out).trans (hb6.mono (K2.base HK5.out).size))
    clear hb6
    go_wp2_with fail
    go_ret2
    exact ⟨rfl, HB6.out⟩
  · obtain rfl := HV0.out h0
    clear HT1 HT2 HV0 HV1
    have hcne : (C != 0) = true := by simpa using h0
    go_wp2_with fail
    go_ret2
    exact ⟨rfl, K2.base HK3.out⟩
end Go.Proofs.Ytpnlocnbcdgamaa.EqS
