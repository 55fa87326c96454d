
/- What the program answers that asks for the first list of columns for which something holds: whether two relations are equal, whether one is empty, whether one is contained.
   Conditions: the relations are read as XMem's text says. -/
import Derived.Test.YtjplmmokbkkclaaFM18
import Derived.Test.YtjplmmokbkkclaaFM16
import Derived.Test.YtjplmmokbkkclaaFM8
namespace Go.Proofs.Ytjplmmokbkkclaa.EqI
set_option linter.unusedVariables false
set_option linter.unusedSimpArgs false
set_option linter.ambiguousOpen false
set_option maxRecDepth 100000
open Go.RowKit Mem Copy Rel Valid Heap Columns Bld ToL TidyMath TidyClass TidyAuto TidyRight SpecFiner SpecRight First FirstTidy FirstI FirstW Alike

def ne2 (a b : Bool) : Bool := a != b
def lf2 (a b : Bool) : Bool := a && !b
noncomputable def apartB (g : Bool → Bool → Bool) (r s : R) : Bool := (firstPP g (toL r) (toL s)).isSome
/-- Whether two relations are equal, if they can be asked about. -/
noncomputable def eqV (r s : R) : Bool := decide (alikeC r s = 0) && !apartB ne2 r s

set_option maxHeartbeats 1000000 in
theorem apart1 (a b : Bool) (W : World) : Calls Try.prog 56 #[.bool a, .bool b] W fun e w' => e = .returned (.bool (ne2 a b)) ∧ W = w' := by
  cases a <;> cases b
  all_goals
    go_enter Try.func56, Try.ntmps56
    go_wp2
    go_ret
    exact ⟨rfl, rfl⟩
theorem okL' {r : R} (h : okB r = true) : (relOf (toL r) = r ∧ (toL r).Ok) ∧ (toL r).acc.length ≤ 150 := by
  unfold okB at h
  rw [Bool.and_eq_true] at h
  exact ⟨relOf_toL h.2, by have := of_decide_eq_true h.1; show r.accept.length ≤ 150; omega⟩
theorem Ans.mono {g : Bool → Bool → Bool} {l m : L} {w W w' : World} {e : Ending} (h : Ans g l m W e w') (hb : Below w.heap.size w W) : Ans g l m w e w' := by
  rcases h with ⟨vc, c, h1, h2, h3, h4, h5⟩ | ⟨h1, h2, h3⟩
  · exact .inl ⟨vc, c, h1, h2, h3, h4.mono hb.size, hb.trans (h5.mono hb.size)⟩
  · exact .inr ⟨h1, h2, hb.trans (h3.mono hb.size)⟩

set_option maxHeartbeats 4000000 in
theorem firstApart (l m : L) (hl : l.Ok) (hm : m.Ok) (hk : l.k = m.k) (hnl : l.acc.length ≤ 150) (hnm : m.acc.length ≤ 150) (v u : Value) (w : World) (B : Nat) (h : RelAt w B v (relOf l)) (h' : RelAt w B u (relOf m)) (hB : B ≤ w.heap.size) :
    Calls Try.prog 34 #[v, u] w (Ans ne2 l m w) := by
  have HFW := Lib.hid (fun W (hb : Below w.heap.size w W) => FirstW.firstWith ne2 l m hl hm hk hnl hnm v u 56 (fun _ _ => rfl) apart1 W W.heap.size ((h.below hb hB).mono (Nat.le_trans hB hb.size)) ((h'.below hb hB).mono (Nat.le_trans hB hb.size)) (Nat.le_refl _))
  obtain ⟨va, vn, rfl, ha, hn⟩ := h
  obtain ⟨aa1, ba, oa, ca1, rfl, -, -, -⟩ := ha
  obtain ⟨-, ⟨ab1, bb, ob, cb1, rfl, -, -, -⟩, -⟩ := hn
  obtain ⟨va, vn, rfl, ha, hn⟩ := h'
  obtain ⟨aa2, ba, oa, ca2, rfl, -, -, -⟩ := ha
  obtain ⟨-, ⟨ab2, bb, ob, cb2, rfl, -, -, -⟩, -⟩ := hn
  simp only [relOf] at HFW ⊢
  obtain ⟨k1, hk1⟩ : ∃ x, x = l.k := ⟨_, rfl⟩
  obtain ⟨k2, hk2⟩ : ∃ x, x = m.k := ⟨_, rfl⟩
  obtain ⟨s1, hs1⟩ : ∃ x, x = l.start := ⟨_, rfl⟩
  obtain ⟨s2, hs2⟩ : ∃ x, x = m.start := ⟨_, rfl⟩
  obtain ⟨na1, hna1⟩ : ∃ x, x = l.acc.length := ⟨_, rfl⟩
  obtain ⟨na2, hna2⟩ : ∃ x, x = m.acc.length := ⟨_, rfl⟩
  obtain ⟨nb1, hnb1⟩ : ∃ x, x = (l.nx.map ofN).length := ⟨_, rfl⟩
  obtain ⟨nb2, hnb2⟩ : ∃ x, x = (m.nx.map ofN).length := ⟨_, rfl⟩
  rw [← hk1, ← hk2, ← hs1, ← hs2, ← hna1, ← hna2, ← hnb1, ← hnb2] at HFW
  rw [← hk1, ← hk2, ← hs1, ← hs2, ← hna1, ← hna2, ← hnb1, ← hnb2]
  clear hk1 hk2 hs1 hs2 hna1 hna2 hnb1 hnb2 hl hm hk hnl hnm
  have HB0 := Lib.hid (show Below w.heap.size w ((w.alloc (.cells #[.int .i64 k1, .int .i64 s1, .slice aa1 na1 ca1, .slice ab1 nb1 cb1] 30)).alloc (.cells #[.int .i64 k2, .int .i64 s2, .slice aa2 na2 ca2, .slice ab2 nb2 cb2] 30)) from base_box (base_box (Below.refl _ w) _) _)
  have HC := Lib.hid (HFW.out _ HB0.out)
  go_enter Try.func34, Try.ntmps34
  go_wp2_with fail
  refine HC.out.mono ?_
  rintro e w3 hans
  have HA := Lib.hid (Ans.mono hans HB0.out)
  rcases hans with ⟨vc, c, -, -, rfl, h4, -⟩ | ⟨-, rfl, -⟩
  · obtain ⟨a5, n5, c5, rfl, -⟩ := h4.shape'
    clear h4
    go_wp2_with fail
    go_ret2
    exact HA.out
  · go_wp2_with fail
    go_ret2
    exact HA.out

/-- What is asked of it where only the truth value is wanted. -/
theorem apartI (r s : R) (h0 : alikeC r s = 0) (v u : Value) (w : World) (B : Nat) (h : RelAt w B v r) (h' : RelAt w B u s) (hB : B ≤ w.heap.size) :
    Calls Try.prog 34 #[v, u] w fun e w' => ∃ a n c, e = .returned (.tuple #[.slice a n c, .bool (apartB ne2 r s)]) ∧ Below w.heap.size w w' := by
  obtain ⟨h1, h2, h3⟩ := alike_of h0
  have e1 := okL' h1
  have e2 := okL' h2
  refine (firstApart (toL r) (toL s) e1.1.2 e2.1.2 (by show r.tapes.toNat = s.tapes.toNat; rw [h3]) e1.2 e2.2 v u w B (by rw [e1.1.1]; exact h) (by rw [e2.1.1]; exact h') hB).mono fun e w' hans => ?_
  rcases hans with ⟨vc, c, h1, -, h3, h4, h5⟩ | ⟨h1, h2, h3⟩
  · obtain ⟨a5, n5, c5, rfl, -⟩ := h4.shape'
    exact ⟨a5, n5, c5, by rw [h3]; unfold apartB; rw [h1]; rfl, h5⟩
  · exact ⟨none, 0, 0, by rw [h2]; unfold apartB; rw [h1]; rfl, h3⟩

set_option maxHeartbeats 8000000 in
theorem areEqualI (v u : Value) (r s : R) (w : World) (B : Nat) (h : RelAt w B v r) (h' : RelAt w B u s) (hB : B ≤ w.heap.size) :
    Calls Try.prog 22 #[v, u] w fun e w' => e = .returned (.tuple #[.bool (eqV r s), .int .i64 (alikeC r s)]) ∧ Below w.heap.size w w' := by
  have HAP := Lib.hid (fun (h0 : alikeC r s = 0) W (hb : Below w.heap.size w W) => apartI r s h0 v u W W.heap.size ((h.below hb hB).mono (Nat.le_trans hB hb.size)) ((h'.below hb hB).mono (Nat.le_trans hB hb.size)) (Nat.le_refl _))
  have HV0 := Lib.hid (show alikeC r s ≠ 0 → eqV r s = false from fun h0 => by unfold eqV; rw [decide_eq_false h0]; rfl)
  have HV9 := Lib.hid (show ∀ x, alikeC r s = 0 → apartB ne2 r s = x → eqV r s = !x from fun x h0 hx => by unfold eqV; rw [decide_eq_true h0, hx]; rfl)
  obtain ⟨V, hV⟩ : ∃ x, x = eqV r s := ⟨_, rfl⟩
  obtain ⟨AP, hAP⟩ : ∃ x, x = apartB ne2 r s := ⟨_, rfl⟩
  rw [← hV] at HV0 HV9
  rw [← hAP] at HAP HV9
  rw [← hV]
  clear hV hAP
  have HV1 := Lib.hid (fun W (hb : Below w.heap.size w W) => ValidImpl.implValid v r W B (h.below hb hB) (Nat.le_trans hB hb.size))
  have HV2 := Lib.hid (fun W (hb : Below w.heap.size w W) => ValidImpl.implValid u s W B (h'.below hb hB) (Nat.le_trans hB hb.size))
  have HE1 := Lib.hid (show okB r = false → alikeC r s = 1 from fun h => by simp [alikeC, h])
  have HE2 := Lib.hid (show okB r = true → okB s = false → alikeC r s = 1 from fun h h2 => by simp [alikeC, h, h2])
  have HE3 := Lib.hid (show okB r = true → okB s = true → r.tapes ≠ s.tapes → alikeC r s = 2 from fun h h2 h3 => by simp [alikeC, h, h2, h3])
  have HE4 := Lib.hid (show okB r = true → okB s = true → r.tapes = s.tapes → alikeC r s = 0 from fun h h2 h3 => by simp [alikeC, h, h2, h3])
  obtain ⟨C, hC⟩ : ∃ x, x = alikeC r s := ⟨_, rfl⟩
  rw [← hC] at HE1 HE2 HE3 HE4 HAP HV0 HV9
  rw [← hC]
  obtain ⟨q1, hq1⟩ : ∃ x, x = okB r := ⟨_, rfl⟩
  obtain ⟨q2, hq2⟩ : ∃ x, x = okB s := ⟨_, rfl⟩
  rw [← hq1] at HV1 HE1 HE2 HE3 HE4
  rw [← hq2] at HV2 HE2 HE3 HE4
  clear hC hq1 hq2
  obtain ⟨va, vn, rfl, ha, hn⟩ := h
  obtain ⟨aa1, ba, oa, ca1, rfl, -, -, -⟩ := ha
  obtain ⟨-, ⟨ab1, bb, ob, cb1, rfl, -, -, -⟩, -⟩ := hn
  obtain ⟨va, vn, rfl, ha, hn⟩ := h'
  obtain ⟨aa2, ba, oa, ca2, rfl, -, -, -⟩ := ha
  obtain ⟨-, ⟨ab2, bb, ob, cb2, rfl, -, -, -⟩, -⟩ := hn
  obtain ⟨k1, hk⟩ : ∃ x, x = r.tapes := ⟨_, rfl⟩
  obtain ⟨st1, hst⟩ : ∃ x, x = r.start := ⟨_, rfl⟩
  obtain ⟨na1, hna⟩ : ∃ x, x = r.accept.length := ⟨_, rfl⟩
  obtain ⟨nb1, hnb⟩ : ∃ x, x = r.next.length := ⟨_, rfl⟩
  rw [← hk, ← hst, ← hna, ← hnb] at HV1 HAP
  rw [← hk] at HE3 HE4
  rw [← hk, ← hst, ← hna, ← hnb]
  clear hk hst hna hnb
  obtain ⟨k2, hk⟩ : ∃ x, x = s.tapes := ⟨_, rfl⟩
  obtain ⟨st2, hst⟩ : ∃ x, x = s.start := ⟨_, rfl⟩
  obtain ⟨na2, hna⟩ : ∃ x, x = s.accept.length := ⟨_, rfl⟩
  obtain ⟨nb2, hnb⟩ : ∃ x, x = s.next.length := ⟨_, rfl⟩
  rw [← hk, ← hst, ← hna, ← hnb] at HV2 HAP
  rw [← hk] at HE3 HE4
  rw [← hk, ← hst, ← hna, ← hnb]
  clear hk hst hna hnb
  have HC1 := Lib.hid (HV1.out ((w.alloc (.cells #[.int .i64 k1, .int .i64 st1, .slice aa1 na1 ca1, .slice ab1 nb1 cb1] 30)).alloc (.cells #[.int .i64 k2, .int .i64 st2, .slice aa2 na2 ca2, .slice ab2 nb2 cb2] 30)) (base_box (base_box (Below.refl _ w) _) _))
  clear HV1 hB
  go_enter Try.func22, Try.ntmps22
  go_wp2_with fail
  refine HC1.out.mono ?_
  rintro e w3 ⟨rfl, hb3⟩
  rw [size_alloc', size_alloc'] at hb3
  have HK3 := Lib.hid (show K2 w #[.int .i64 k1, .int .i64 st1, .slice aa1 na1 ca1, .slice ab1 nb1 cb1] #[.int .i64 k2, .int .i64 st2, .slice aa2 na2 ca2, .slice ab2 nb2 cb2] w3 from hb3)
  have HW3 := Lib.hid (K2.base HK3.out)
  have hb1 := K2.box1 HK3.out
  have hb2 := K2.box2 HK3.out
  have x0 := cells_get hb1 0
  have y0 := cells_get hb2 0
  have y1 := cells_get hb2 1
  have y2 := cells_get hb2 2
  have y3 := cells_get hb2 3
  simp at x0 y0 y1 y2 y3
  clear hb3 hb1 hb2 HC1
  cases q1 with
  | false =>
    obtain rfl := HE1.out rfl
    obtain rfl := HV0.out (by decide)
    clear HE1 HE2 HE3 HE4 HV2 HAP HV0 HV9
    go_wp2_with fail
    go_ret2
    exact ⟨rfl, HW3.out⟩
  | true =>
    have HC2 := Lib.hid (HV2.out w3 HW3.out)
    clear HV2
    go_wp2_with fail
    refine HC2.out.mono ?_
    rintro e w4 ⟨rfl, hb4⟩
    have HK4 := Lib.hid (show K2 w #[.int .i64 k1, .int .i64 st1, .slice aa1 na1 ca1, .slice ab1 nb1 cb1] #[.int .i64 k2, .int .i64 st2, .slice aa2 na2 ca2, .slice ab2 nb2 cb2] w4 from Below.trans HK3.out (hb4.mono (K2.size HK3.out)))
    have HW4 := Lib.hid (K2.base HK4.out)
    clear x0 y0 y1 y2 y3
    have hb1 := K2.box1 HK4.out
    have hb2 := K2.box2 HK4.out
    have x0 := cells_get hb1 0
    have y0 := cells_get hb2 0
    simp at x0 y0
    clear hb4 hb1 hb2 HC2
    cases q2 with
    | false =>
      obtain rfl := HE2.out (by trivial) rfl
      obtain rfl := HV0.out (by decide)
      clear HE1 HE2 HE3 HE4 HAP HV0 HV9
      go_wp2_with fail
      go_ret2
      exact ⟨rfl, HW4.out⟩
    | true =>
      by_cases hkk : k1 = k2
      · obtain rfl := HE4.out (by trivial) (by trivial) hkk
        have HC4 := Lib.hid (HAP.out rfl w4 HW4.out)
        have HVV := Lib.hid (HV9.out AP rfl rfl)
        clear HE1 HE2 HE3 HE4 HAP HV0 HV9
        subst hkk
        have hb1 := K2.box1 HK4.out
        have hb2 := K2.box2 HK4.out
        clear x0 y0
        have x0 := cells_get hb1 0
        have x1 := cells_get hb1 1
        have x2 := cells_get hb1 2
        have x3 := cells_get hb1 3
        have y0 := cells_get hb2 0
        have y1 := cells_get hb2 1
        have y2 := cells_get hb2 2
        have y3 := cells_get hb2 3
        simp at x0 x1 x2 x3 y0 y1 y2 y3
        have hk4 := K2.size HK4.out
        clear hb1 hb2
        go_wp2_with fail
        refine HC4.out.mono ?_
        rintro e w5 ⟨a5, n5, c5, rfl, hb5⟩
        have HW5 := Lib.hid (HW4.out.trans (hb5.mono HW4.out.size))
        clear hb5
        go_wp2_with fail
        go_ret2
        exact ⟨by rw [HVV.out]; rfl, HW5.out⟩
      · obtain rfl := HE3.out (by trivial) (by trivial) hkk
        obtain rfl := HV0.out (by decide)
        clear HE1 HE2 HE3 HE4 HAP HV0 HV9
        go_wp2_with fail
        go_ret2
        exact ⟨rfl, HW4.out⟩

end Go.Proofs.Ytjplmmokbkkclaa.EqI
/- What the program answers that is asked whether a relation lies in another.
   Conditions: the relations are read as XMem's text says. -/
namespace Go.Proofs.Ytjplmmokbkkclaa.ContI
set_option linter.unusedVariables false
set_option linter.unusedSimpArgs false
set_option linter.ambiguousOpen false
set_option maxRecDepth 100000
open Go.RowKit Mem Copy Rel Valid Heap Columns Bld ToL TidyMath TidyClass TidyAuto TidyRight SpecFiner SpecRight First FirstTidy FirstI FirstW Alike EqI

/-- Whether a relation lies in another, if they can be asked about. -/
noncomputable def liesV (r s : R) : Bool := decide (alikeC r s = 0) && !apartB lf2 r s

set_option maxHeartbeats 1000000 in
theorem left1 (a b : Bool) (W : World) : Calls Try.prog 48 #[.bool a, .bool b] W fun e w' => e = .returned (.bool (lf2 a b)) ∧ W = w' := by
  cases a <;> cases b
  all_goals
    go_enter Try.func48, Try.ntmps48
    go_wp2
    go_ret
    exact ⟨rfl, rfl⟩
/-- What is asked of it where only the truth value is wanted. -/
theorem leftI (r s : R) (h0 : alikeC r s = 0) (v u : Value) (w : World) (B : Nat) (h : RelAt w B v r) (h' : RelAt w B u s) (hB : B ≤ w.heap.size) :
    Calls Try.prog 47 #[v, u, .func (.func 48) #[] #[]] w fun e w' => ∃ a n c, e = .returned (.tuple #[.slice a n c, .bool (apartB lf2 r s)]) ∧ Below w.heap.size w w' := by
  obtain ⟨h1, h2, h3⟩ := alike_of h0
  have e1 := okL' h1
  have e2 := okL' h2
  refine (FirstW.firstWith lf2 (toL r) (toL s) e1.1.2 e2.1.2 (by show r.tapes.toNat = s.tapes.toNat; rw [h3]) e1.2 e2.2 v u 48 (fun _ _ => rfl) left1 w B (by rw [e1.1.1]; exact h) (by rw [e2.1.1]; exact h') hB).mono fun e w' hans => ?_
  rcases hans with ⟨vc, c, h1, -, h3, h4, h5⟩ | ⟨h1, h2, h3⟩
  · obtain ⟨a5, n5, c5, rfl, -⟩ := h4.shape'
    exact ⟨a5, n5, c5, by rw [h3]; unfold apartB; rw [h1]; rfl, h5⟩
  · exact ⟨none, 0, 0, by rw [h2]; unfold apartB; rw [h1]; rfl, h3⟩

set_option maxHeartbeats 8000000 in
theorem containedI (v u : Value) (r s : R) (w : World) (B : Nat) (h : RelAt w B v r) (h' : RelAt w B u s) (hB : B ≤ w.heap.size) :
    Calls Try.prog 24 #[v, u] w fun e w' => e = .returned (.tuple #[.bool (liesV r s), .int .i64 (alikeC r s)]) ∧ Below w.heap.size w w' := by
  have HAP := Lib.hid (fun (h0 : alikeC r s = 0) W (hb : Below w.heap.size w W) => leftI r s h0 v u W W.heap.size ((h.below hb hB).mono (Nat.le_trans hB hb.size)) ((h'.below hb hB).mono (Nat.le_trans hB hb.size)) (Nat.le_refl _))
  have HAL := Lib.hid (fun W (hb : Below w.heap.size w W) => alikeI v u r s W W.heap.size ((h.below hb hB).mono (Nat.le_trans hB hb.size)) ((h'.below hb hB).mono (Nat.le_trans hB hb.size)) (Nat.le_refl _))
  have HV0 := Lib.hid (show alikeC r s ≠ 0 → liesV r s = false from fun h0 => by unfold liesV; rw [decide_eq_false h0]; rfl)
  have HV9 := Lib.hid (show alikeC r s = 0 → liesV r s = !apartB lf2 r s from fun h0 => by unfold liesV; rw [decide_eq_true h0]; rfl)
  obtain ⟨V, hV⟩ : ∃ x, x = liesV r s := ⟨_, rfl⟩
  obtain ⟨AP, hAP⟩ : ∃ x, x = apartB lf2 r s := ⟨_, rfl⟩
  obtain ⟨C, hC⟩ : ∃ x, x = alikeC r s := ⟨_, rfl⟩
  rw [← hV] at HV0 HV9
  rw [← hAP] at HAP HV9
  rw [← hC] at HAP HAL HV0 HV9
  rw [← hV, ← hC]
  clear hV hAP hC
  obtain ⟨va, vn, rfl, ha, hn⟩ := h
  obtain ⟨aa1, ba, oa, ca1, rfl, -, -, -⟩ := ha
  obtain ⟨-, ⟨ab1, bb, ob, cb1, rfl, -, -, -⟩, -⟩ := hn
  obtain ⟨va, vn, rfl, ha, hn⟩ := h'
  obtain ⟨aa2, ba, oa, ca2, rfl, -, -, -⟩ := ha
  obtain ⟨-, ⟨ab2, bb, ob, cb2, rfl, -, -, -⟩, -⟩ := hn
  obtain ⟨k1, hk⟩ : ∃ x, x = r.tapes := ⟨_, rfl⟩
  obtain ⟨st1, hst⟩ : ∃ x, x = r.start := ⟨_, rfl⟩
  obtain ⟨na1, hna⟩ : ∃ x, x = r.accept.length := ⟨_, rfl⟩
  obtain ⟨nb1, hnb⟩ : ∃ x, x = r.next.length := ⟨_, rfl⟩
  rw [← hk, ← hst, ← hna, ← hnb] at HAL HAP
  rw [← hk, ← hst, ← hna, ← hnb]
  clear hk hst hna hnb
  obtain ⟨k2, hk⟩ : ∃ x, x = s.tapes := ⟨_, rfl⟩
  obtain ⟨st2, hst⟩ : ∃ x, x = s.start := ⟨_, rfl⟩
  obtain ⟨na2, hna⟩ : ∃ x, x = s.accept.length := ⟨_, rfl⟩
  obtain ⟨nb2, hnb⟩ : ∃ x, x = s.next.length := ⟨_, rfl⟩
  rw [← hk, ← hst, ← hna, ← hnb] at HAL HAP
  rw [← hk, ← hst, ← hna, ← hnb]
  clear hk hst hna hnb
  have HK0 := Lib.hid (show K2 w #[.int .i64 k1, .int .i64 st1, .slice aa1 na1 ca1, .slice ab1 nb1 cb1] #[.int .i64 k2, .int .i64 st2, .slice aa2 na2 ca2, .slice ab2 nb2 cb2] ((w.alloc (.cells #[.int .i64 k1, .int .i64 st1, .slice aa1 na1 ca1, .slice ab1 nb1 cb1] 30)).alloc (.cells #[.int .i64 k2, .int .i64 st2, .slice aa2 na2 ca2, .slice ab2 nb2 cb2] 30)) from Below.refl _ _)
  have HC1 := Lib.hid (HAL.out _ (K2.base HK0.out))
  clear HAL hB
  go_enter Try.func24, Try.ntmps24
  go_wp2_with fail
  refine HC1.out.mono ?_
  rintro e w3 ⟨rfl, hb3⟩
  have HK3 := Lib.hid (show K2 w #[.int .i64 k1, .int .i64 st1, .slice aa1 na1 ca1, .slice ab1 nb1 cb1] #[.int .i64 k2, .int .i64 st2, .slice aa2 na2 ca2, .slice ab2 nb2 cb2] w3 from Below.trans HK0.out (hb3.mono (K2.size HK0.out)))
  have HW3 := Lib.hid (K2.base HK3.out)
  clear hb3 HC1 HK0
  by_cases h0 : C = 0
  · have HC4 := Lib.hid (HAP.out h0 w3 HW3.out)
    have HVV := Lib.hid (HV9.out h0)
    subst h0
    clear HAP HV0 HV9
    have hb1 := K2.box1 HK3.out
    have hb2 := K2.box2 HK3.out
    have x0 := cells_get hb1 0
    have x1 := cells_get hb1 1
    have x2 := cells_get hb1 2
    have x3 := cells_get hb1 3
    have y0 := cells_get hb2 0
    have y1 := cells_get hb2 1
    have y2 := cells_get hb2 2
    have y3 := cells_get hb2 3
    simp at x0 x1 x2 x3 y0 y1 y2 y3
    have hk4 := K2.size HK3.out
    clear hb1 hb2
    go_wp2_with fail
    refine HC4.out.mono ?_
    rintro e w5 ⟨a5, n5, c5, rfl, hb5⟩
    have HW5 := Lib.hid (HW3.out.trans (hb5.mono HW3.out.size))
    clear hb5
    go_wp2_with fail
    go_ret2
    exact ⟨by rw [HVV.out]; rfl, HW5.out⟩
  · obtain rfl := HV0.out h0
    clear HAP HV0 HV9
    have hcne : (C != 0) = true := by simpa using h0
    go_wp2_with fail
    go_ret2
    exact ⟨rfl, HW3.out⟩
end Go.Proofs.Ytjplmmokbkkclaa.ContI
/- What the model makes of the first list of columns: words and a code.
   Conditions: stated at each theorem. -/
namespace Go.Proofs.Ytjplmmokbkkclaa.Found
set_option linter.unusedVariables false
set_option linter.unusedSimpArgs false
set_option linter.ambiguousOpen false
set_option maxRecDepth 100000
open Go.RowKit Mem Copy Rel Valid Heap Columns Bld ToL TidyMath TidyClass TidyAuto TidyRight SpecFiner SpecRight PairMath First FirstTidy FirstI FirstK FirstS Alike EqI TakenRight Strs ColMath TupMath SpecTuple SpecWords MarkRow

def foundC (o : Option (List Nat)) : Int := match o with | some c => if c.length ≤ 40 then 0 else 3 | none => 6
def foundL (k : Nat) (o : Option (List Nat)) : List ByteArray := match o with | some c => if c.length ≤ 40 then (List.range k).map fun u => strOfNums (wd (c.map Int.ofNat) u) else [] | none => []
theorem foundL_len {k : Nat} (h3 : k ≤ 3) (o : Option (List Nat)) : (foundL k o).length ≤ 3 := by
  unfold foundL
  cases o with
  | none => exact Nat.zero_le _
  | some c =>
    by_cases h : c.length ≤ 40
    · simp only; rw [if_pos h, List.length_map, List.length_range]; exact h3
    · simp only; rw [if_neg h]; exact Nat.zero_le _
theorem foundL_short (k : Nat) (o : Option (List Nat)) (i : Nat) : ((foundL k o).getD i ByteArray.empty).size ≤ maxLen := by
  unfold foundL
  cases o with
  | none => simp [List.getD]
  | some c =>
    by_cases h : c.length ≤ 40
    · simp only
      rw [if_pos h]
      by_cases hi : i < k
      · simp only [List.getD, List.getElem?_map, List.getElem?_range hi, Option.map_some, Option.getD_some, strOfNums_size]
        have := wd_len (c.map Int.ofNat) i
        rw [List.length_map] at this
        unfold maxLen; omega
      · simp [List.getD, hi]
    · simp only
      rw [if_neg h]; simp [List.getD]
theorem FreshS.low {B C : Nat} {W : World} {v : Value} {ss : List ByteArray} (h : FreshS C W v ss) (hB : B ≤ C) : FreshS B W v ss := by
  obtain ⟨a, cap, rfl, h⟩ := h
  exact ⟨a, cap, rfl, fun hn => by obtain ⟨g, m, F, e, hl, r⟩ := h hn; exact ⟨g, m, F, e, Nat.le_trans hB hl, r⟩⟩
theorem ints_of {w : World} {B C : Nat} {v : Value} {c : List Nat} (h : Heap.Lst w B 2 v (iv c)) (hC : w.heap.size ≤ C) : Ints w C v (c.map Int.ofNat) := by
  obtain ⟨a, b, off, cap, hv, hm, ha, hc⟩ := h.reads C hC (.int .i64 0)
  rw [iv_length] at hv hm ha hc
  refine ⟨a, b, off, cap, by rw [List.length_map]; exact hv, by rw [List.length_map]; exact hm, by rw [List.length_map]; exact ha, fun i hi => ?_⟩
  rw [List.length_map] at hi
  rw [hc i hi]
  simp [iv, List.getD, hi]
theorem cols_small {k : Nat} {c : List Nat} (h1 : 1 ≤ k) (h3 : k ≤ 3) (hl : Low (wide k) c) : (∀ i, i < (c.map Int.ofNat).length → 0 ≤ (c.map Int.ofNat).getD i 0 ∧ (c.map Int.ofNat).getD i 0 ≤ 25) ∧ ∀ i, i < c.length → c.getD i 0 < wide k := by
  have hw := wide_cases h1 h3
  have key : ∀ i, i < c.length → c.getD i 0 < wide k := fun i hi => by
    have := hl (c[i]) (List.getElem_mem hi)
    rwa [List.getD_eq_getElem?_getD, List.getElem?_eq_getElem hi, Option.getD_some]
  refine ⟨fun i hi => ?_, key⟩
  rw [List.length_map] at hi
  have := key i hi
  have e : (c.map Int.ofNat).getD i 0 = ((c.getD i 0 : Nat) : Int) := by simp [List.getD, hi]
  rw [e]
  omega

set_option maxHeartbeats 4000000 in
theorem found (x : L) (hx : x.Ok) (hr : ∀ c, firstX x = some c → Low (wide x.k) c → rightB x.k (c.map Int.ofNat) = true) (bp : Nat) (w : World) (B : Nat) (h : RelPtr w B bp (relOf x)) (hB : B ≤ w.heap.size) (hbp : bp < w.heap.size) (hn : x.acc.length ≤ 10000000) :
    Calls Try.prog 30 #[.pointer (some ⟨bp, 0, none⟩)] w fun e w' => ∃ v, e = .returned (.tuple #[v, .int .i64 (foundC (firstX x))]) ∧ FreshS w.heap.size w' v (foundL x.k (firstX x)) ∧ Below w.heap.size w w' := by
  have HF := Lib.hid (FirstS.first x hx bp w B h hB hbp hn)
  have HTU := Lib.hid (fun (cs : List Int) W va (ha : Ints W W.heap.size va cs) h1 h2 => specTuple x.k cs va W W.heap.size hx.k3 ha (Nat.le_refl _) h1 h2)
  have HSM := Lib.hid (fun (c : List Nat) (hl : Low (wide x.k) c) => cols_small hx.k0 hx.k3 hl)
  have HR := Lib.hid hr
  have x0 : w.cell? ⟨bp, 0, none⟩ = some (.int .i64 (x.k : Nat)) := by
    obtain ⟨va, vn, h0, -⟩ := h
    exact h0
  obtain ⟨k, hk⟩ : ∃ k, k = x.k := ⟨_, rfl⟩
  rw [← hk] at x0 HTU HSM HR
  rw [← hk]
  have HKX := Lib.hid hk
  unfold AnsX at HF
  rw [← hk] at HF
  obtain ⟨o, ho⟩ : ∃ o, o = firstX x := ⟨_, rfl⟩
  rw [← ho] at HF HR
  rw [← ho]
  clear ho hk hr h hx hB hn
  go_enter Try.func30, Try.ntmps30
  go_wp2_with fail
  refine HF.out.mono ?_
  rintro e w1 hans
  rcases hans with ⟨vc, c, rfl, hlow, rfl, hl, hb⟩ | ⟨rfl, a, cc, rfl, hb⟩
  · have x1 : w1.cell? ⟨bp, 0, none⟩ = some (.int .i64 (k : Nat)) := (hb.cell (p := ⟨bp, 0, none⟩) hbp).trans x0
    have hb1 : bp < w1.heap.size := Nat.lt_of_lt_of_le hbp hb.size
    obtain ⟨a5, n5, c5, rfl, hn5⟩ := hl.shape'
    have hn5 : n5 = c.length := by have : n5 = (iv c).length := hn5; rw [this, iv_length]
    have HB := Lib.hid hb
    by_cases hlen : c.length ≤ 40
    · have HTC := Lib.hid (HTU.out (c.map Int.ofNat) w1 _ (ints_of hl (Nat.le_refl _)) (by rw [List.length_map]; exact hlen) (HSM.out c hlow).1)
      rw [HR.out c rfl hlow] at HTC
      have HFL := Lib.hid (show foundL k (some c) = (List.range k).map fun u => strOfNums (wd (c.map Int.ofNat) u) by unfold foundL; simp only; rw [if_pos hlen])
      have HFC := Lib.hid (show foundC (some c) = 0 by unfold foundC; simp only; rw [if_pos hlen])
      have hdl : ¬ (40 : Int) < (n5 : Int) := by rw [hn5]; omega
      have hdd : decide ((40 : Int) < (n5 : Int)) = false := decide_eq_false hdl
      clear hl hb hn5 HF HTU HSM HR x0
      go_wp2_with fail
      refine HTC.out.mono ?_
      rintro e w2 ⟨rfl, hrow, hb2⟩
      have HFR := Lib.hid (freshS_row (hrow (by trivial)))
      have HB2 := Lib.hid hb2
      clear hrow hb2 HTC
      go_wp2_with fail
      go_ret2
      exact ⟨_, by rw [HFC.out]; rfl, by rw [HFL.out]; exact FreshS.low HFR.out HB.out.size, HB.out.trans (HB2.out.mono HB.out.size)⟩
    · have HFL := Lib.hid (show foundL k (some c) = [] by unfold foundL; simp only; rw [if_neg hlen])
      have HFC := Lib.hid (show foundC (some c) = 3 by unfold foundC; simp only; rw [if_neg hlen])
      have hdd : decide ((40 : Int) < (n5 : Int)) = true := decide_eq_true (by rw [hn5]; omega)
      clear hl hb hn5 HF HTU HSM HR x0
      go_wp2_with fail
      go_ret2
      exact ⟨_, by rw [HFC.out]; rfl, by rw [HFL.out]; exact freshS_none _ _ _ _, HB.out.alloc HB.out.size _⟩
  · have HB := Lib.hid hb
    clear hb HF HTU HSM HR x0
    go_wp2_with fail
    go_ret2
    exact ⟨_, rfl, freshS_none _ _ _ _, HB.out.alloc HB.out.size _⟩
end Go.Proofs.Ytjplmmokbkkclaa.Found
