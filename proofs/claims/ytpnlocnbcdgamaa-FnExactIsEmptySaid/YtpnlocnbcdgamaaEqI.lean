
/- What the program answers that asks for the first list of columns for which something holds: whether two relations are equal, whether one is empty, whether one is contained.
   Conditions: the relations are read as XMem's text says. -/
import Derived.Test.YtpnlocnbcdgamaaFirstW
namespace Go.Proofs.Ytpnlocnbcdgamaa.EqI
set_option linter.unusedVariables false
set_option linter.unusedSimpArgs false
set_option linter.ambiguousOpen false
set_option maxRecDepth 100000
open Go.RowKit Mem Copy Rel Valid Heap Columns Bld ToL TidyMath TidyClass TidyAuto TidyRight SpecFiner SpecRight First FirstTidy FirstI FirstW Alike

def ne2 (a b : Bool) : Bool := a != b
def lf2 (a b : Bool) : Bool := a && !b
noncomputable def apartB (g : Bool → Bool → Bool) (r s : R) : Bool := (firstPP g (toL r) (toL s)).isSome
/-- Whether two relations are equal, if they can be asked about. -/
noncomputable def eqV (r s : R) : Bool := decide (alikeC r s = 0) && !apartB ne2 r s

set_option maxHeartbeats 1000000 in
theorem apart1 (a b : Bool) (W : World) : Calls Try.prog 57 #[.bool a, .bool b] W fun e w' => e = .returned (.bool (ne2 a b)) ∧ W = w' := by
  cases a <;> cases b
  all_goals
    go_enter Try.func57, Try.ntmps57
    go_wp2
    go_ret
    exact ⟨rfl, rfl⟩
theorem okL' {r : R} (h : okB r = true) : (relOf (toL r) = r ∧ (toL r).Ok) ∧ (toL r).acc.length ≤ 150 := by
  unfold okB at h
  rw [Bool.and_eq_true] at h
  exact ⟨relOf_toL h.2, by have := of_decide_eq_true h.1; show r.accept.length ≤ 150; omega⟩
theorem Ans.mono {g : Bool → Bool → Bool} {l m : L} {w W w' : World} {e : Ending} (h : Ans g l m W e w') (hb : Below w.heap.size w W) : Ans g l m w e w' := by
  rcases h with ⟨vc, c, h1, h2, h3, h4, h5⟩ | ⟨h1, h2, h3⟩
  · exact .inl ⟨vc, c, h1, h2, h3, h4.mono hb.size, hb.trans (h5.mono hb.size)⟩
  · exact .inr ⟨h1, h2, hb.trans (h3.mono hb.size)⟩

set_option maxHeartbeats 4000000 in
theorem firstApart (l m : L) (hl : l.Ok) (hm : m.Ok) (hk : l.k = m.k) (hnl : l.acc.length ≤ 150) (hnm : m.acc.length ≤ 150) (v u : Value) (w : World) (B : Nat) (h : RelAt w B v (relOf l)) (h' : RelAt w B u (relOf m)) (hB : B ≤ w.heap.size) :
    Calls Try.prog 33 #[v, u] w (Ans ne2 l m w) := by
  have HFW := Lib.hid (fun W (hb : Below w.heap.size w W) => FirstW.firstWith ne2 l m hl hm hk hnl hnm v u 57 (fun _ _ => rfl) apart1 W W.heap.size ((h.below hb hB).mono (Nat.le_trans hB hb.size)) ((h'.below hb hB).mono (Nat.le_trans hB hb.size)) (Nat.le_refl _))
  obtain ⟨va, vn, rfl, ha, hn⟩ := h
  obtain ⟨aa1, ba, oa, ca1, rfl, -, -, -⟩ := ha
  obtain ⟨-, ⟨ab1, bb, ob, cb1, rfl, -, -, -⟩, -⟩ := hn
  obtain ⟨va, vn, rfl, ha, hn⟩ := h'
  obtain ⟨aa2, ba, oa, ca2, rfl, -, -, -⟩ := ha
  obtain ⟨-, ⟨ab2, bb, ob, cb2, rfl, -, -, -⟩, -⟩ := hn
  simp only [relOf] at HFW ⊢
  obtain ⟨k1, hk1⟩ : ∃ x, x = l.k := ⟨_, rfl⟩
  obtain ⟨k2, hk2⟩ : ∃ x, x = m.k := ⟨_, rfl⟩
  obtain ⟨s1, hs1⟩ : ∃ x, x = l.start := ⟨_, rfl⟩
  obtain ⟨s2, hs2⟩ : ∃ x, x = m.start := ⟨_, rfl⟩
  obtain ⟨na1, hna1⟩ : ∃ x, x = l.acc.length := ⟨_, rfl⟩
  obtain ⟨na2, hna2⟩ : ∃ x, x = m.acc.length := ⟨_, rfl⟩
  obtain ⟨nb1, hnb1⟩ : ∃ x, x = (l.nx.map ofN).length := ⟨_, rfl⟩
  obtain ⟨nb2, hnb2⟩ : ∃ x, x = (m.nx.map ofN).length := ⟨_, rfl⟩
  rw [← hk1, ← hk2, ← hs1, ← hs2, ← hna1, ← hna2, ← hnb1, ← hnb2] at HFW
  rw [← hk1, ← hk2, ← hs1, ← hs2, ← hna1, ← hna2, ← hnb1, ← hnb2]
  clear hk1 hk2 hs1 hs2 hna1 hna2 hnb1 hnb2 hl hm hk hnl hnm
  have HB0 := Lib.hid (show Below w.heap.size w ((w.alloc (.cells #[.int .i64 k1, .int .i64 s1, .slice aa1 na1 ca1, .slice ab1 nb1 cb1] 29)).alloc (.cells #[.int .i64 k2, .int .i64 s2, .slice aa2 na2 ca2, .slice ab2 nb2 cb2] 29)) from base_box (base_box (Below.refl _ w) _) _)
  have HC := Lib.hid (HFW.out _ HB0.out)
  go_enter Try.func33, Try.ntmps33
  go_wp2_with fail
  refine HC.out.mono ?_
  rintro e w3 hans
  have HA := Lib.hid (Ans.mono hans HB0.out)
  rcases hans with ⟨vc, c, -, -, rfl, h4, -⟩ | ⟨-, rfl, -⟩
  · obtain ⟨a5, n5, c5, rfl, -⟩ := h4.shape'
    clear h4
    go_wp2_with fail
    go_ret2
    exact HA.out
  · go_wp2_with fail
    go_ret2
    exact HA.out

/-- What is asked of it where only the truth value is wanted. -/
theorem apartI (r s : R) (h0 : alikeC r s = 0) (v u : Value) (w : World) (B : Nat) (h : RelAt w B v r) (h' : RelAt w B u s) (hB : B ≤ w.heap.size) :
    Calls Try.prog 33 #[v, u] w fun e w' => ∃ a n c, e = .returned (.tuple #[.slice a n c, .bool (apartB ne2 r s)]) ∧ Below w.heap.size w w' := by
  obtain ⟨h1, h2, h3⟩ := alike_of h0
  have e1 := okL' h1
  have e2 := okL' h2
  refine (firstApart (toL r) (toL s) e1.1.2 e2.1.2 (by show r.tapes.toNat = s.tapes.toNat; rw [h3]) e1.2 e2.2 v u w B (by rw [e1.1.1]; exact h) (by rw [e2.1.1]; exact h') hB).mono fun e w' hans => ?_
  rcases hans with ⟨vc, c, h1, -, h3, h4, h5⟩ | ⟨h1, h2, h3⟩
  · obtain ⟨a5, n5, c5, rfl, -⟩ := h4.shape'
    exact ⟨a5, n5, c5, by rw [h3]; unfold apartB; rw [h1]; rfl, h5⟩
  · exact ⟨none, 0, 0, by rw [h2]; unfold apartB; rw [h1]; rfl, h3⟩

set_option maxHeartbeats 8000000 in
theorem areEqualI (v u : Value) (r s : R) (w : World) (B : Nat) (h : RelAt w B v r) (h' : RelAt w B u s) (hB : B ≤ w.heap.size) :
    Calls Try.prog 11 #[v, u] w fun e w' => e = .returned (.tuple #[.bool (eqV r s), .int .i64 (alikeC r s)]) ∧ Below w.heap.size w w' := by
  have HAP := Lib.hid (fun (h0 : alikeC r s = 0) W (hb : Below w.heap.size w W) => apartI r s h0 v u W W.heap.size ((h.below hb hB).mono (Nat.le_trans hB hb.size)) ((h'.below hb hB).mono (Nat.le_trans hB hb.size)) (Nat.le_refl _))
  have HV0 := Lib.hid (show alikeC r s ≠ 0 → eqV r s = false from fun h0 => by unfold eqV; rw [decide_eq_false h0]; rfl)
  have HV9 := Lib.hid (show ∀ x, alikeC r s = 0 → apartB ne2 r s = x → eqV r s = !x from fun x h0 hx => by unfold eqV; rw [decide_eq_true h0, hx]; rfl)
  obtain ⟨V, hV⟩ : ∃ x, x = eqV r s := ⟨_, rfl⟩
  obtain ⟨AP, hAP⟩ : ∃ x, x = apartB ne2 r s := ⟨_, rfl⟩
  rw [← hV] at HV0 HV9
  rw [← hAP] at HAP HV9
  rw [← hV]
  clear hV hAP
  have HV1 := Lib.hid (fun W (hb : Below w.heap.size w W) => ValidImpl.implValid v r W B (h.below hb hB) (Nat.le_trans hB hb.size))
  have HV2 := Lib.hid (fun W (hb : Below w.heap.size w W) => ValidImpl.implValid u s W B (h'.below hb hB) (Nat.le_trans hB hb.size))
  have HE1 := Lib.hid (show okB r = false → alikeC r s = 1 from fun h => by simp [alikeC, h])
  have HE2 := Lib.hid (show okB r = true → okB s = false → alikeC r s = 1 from fun h h2 => by simp [alikeC, h, h2])
  have HE3 := Lib.hid (show okB r = true → okB s = true → r.tapes ≠ s.tapes → alikeC r s = 2 from fun h h2 h3 => by simp [alikeC, h, h2, h3])
  have HE4 := Lib.hid (show okB r = true → okB s = true → r.tapes = s.tapes → alikeC r s = 0 from fun h h2 h3 => by simp [alikeC, h, h2, h3])
  obtain ⟨C, hC⟩ : ∃ x, x = alikeC r s := ⟨_, rfl⟩
  rw [← hC] at HE1 HE2 HE3 HE4 HAP HV0 HV9
  rw [← hC]
  obtain ⟨q1, hq1⟩ : ∃ x, x = okB r := ⟨_, rfl⟩
  obtain ⟨q2, hq2⟩ : ∃ x, x = okB s := ⟨_, rfl⟩
  rw [← hq1] at HV1 HE1 HE2 HE3 HE4
  rw [← hq2] at HV2 HE2 HE3 HE4
  clear hC hq1 hq2
  obtain ⟨va, vn, rfl, ha, hn⟩ := h
  obtain ⟨aa1, ba, oa, ca1, rfl, -, -, -⟩ := ha
  obtain ⟨-, ⟨ab1, bb, ob, cb1, rfl, -, -, -⟩, -⟩ := hn
  obtain ⟨va, vn, rfl, ha, hn⟩ := h'
  obtain ⟨aa2, ba, oa, ca2, rfl, -, -, -⟩ := ha
  obtain ⟨-, ⟨ab2, bb, ob, cb2, rfl, -, -, -⟩, -⟩ := hn
  obtain ⟨k1, hk⟩ : ∃ x, x = r.tapes := ⟨_, rfl⟩
  obtain ⟨st1, hst⟩ : ∃ x, x = r.start := ⟨_, rfl⟩
  obtain ⟨na1, hna⟩ : ∃ x, x = r.accept.length := ⟨_, rfl⟩
  obtain ⟨nb1, hnb⟩ : ∃ x, x = r.next.length := ⟨_, rfl⟩
  rw [← hk, ← hst, ← hna, ← hnb] at HV1 HAP
  rw [← hk] at HE3 HE4
  rw [← hk, ← hst, ← hna, ← hnb]
  clear hk hst hna hnb
  obtain ⟨k2, hk⟩ : ∃ x, x = s.tapes := ⟨_, rfl⟩
  obtain ⟨st2, hst⟩ : ∃ x, x = s.start := ⟨_, rfl⟩
  obtain ⟨na2, hna⟩ : ∃ x, x = s.accept.length := ⟨_, rfl⟩
  obtain ⟨nb2, hnb⟩ : ∃ x, x = s.next.length := ⟨_, rfl⟩
  rw [← hk, ← hst, ← hna, ← hnb] at HV2 HAP
  rw [← hk] at HE3 HE4
  rw [← hk, ← hst, ← hna, ← hnb]
  clear hk hst hna hnb
  have HC1 := Lib.hid (HV1.out ((w.alloc (.cells #[.int .i64 k1, .int .i64 st1, .slice aa1 na1 ca1, .slice ab1 nb1 cb1] 29)).alloc (.cells #[.int .i64 k2, .int .i64 st2, .slice aa2 na2 ca2, .slice ab2 nb2 cb2] 29)) (base_box (base_box (Below.refl _ w) _) _))
  clear HV1 hB
  go_enter Try.func11, Try.ntmps11
  go_wp2_with fail
  refine HC1.out.mono ?_
  rintro e w3 ⟨rfl, hb3⟩
  rw [size_alloc', size_alloc'] at hb3
  have HK3 := Lib.hid (show K2 w #[.int .i64 k1, .int .i64 st1, .slice aa1 na1 ca1, .slice ab1 nb1 cb1] #[.int .i64 k2, .int .i64 st2, .slice aa2 na2 ca2, .slice ab2 nb2 cb2] w3 from hb3)
  have HW3 := Lib.hid (K2.base HK3.out)
  have hb1 := K2.box1 HK3.out
  have hb2 := K2.box2 HK3.out
  have x0 := cells_get hb1 0
  have y0 := cells_get hb2 0
  have y1 := cells_get hb2 1
  have y2 := cells_get hb2 2
  have y3 := cells_get hb2 3
  simp at x0 y0 y1 y2 y3
  clear hb3 hb1 hb2 HC1
  cases q1 with
  | false =>
    obtain rfl := HE1.out rfl
    obtain rfl := HV0.out (by decide)
    clear HE1 HE2 HE3 HE4 HV2 HAP HV0 HV9
    go_wp2_with fail
    go_ret2
    exact ⟨rfl, HW3.out⟩
  | true =>
    have HC2 := Lib.hid (HV2.out w3 HW3.out)
    clear HV2
    go_wp2_with fail
    refine HC2.out.mono ?_
    rintro e w4 ⟨rfl, hb4⟩
    have HK4 := Lib.hid (show K2 w #[.int .i64 k1, .int .i64 st1, .slice aa1 na1 ca1, .slice ab1 nb1 cb1] #[.int .i64 k2, .int .i64 st2, .slice aa2 na2 ca2, .slice ab2 nb2 cb2] w4 from Below.trans HK3.out (hb4.mono (K2.size HK3.out)))
    have HW4 := Lib.hid (K2.base HK4.out)
    clear x0 y0 y1 y2 y3
    have hb1 := K2.box1 HK4.out
    have hb2 := K2.box2 HK4.out
    have x0 := cells_get hb1 0
    have y0 := cells_get hb2 0
    simp at x0 y0
    clear hb4 hb1 hb2 HC2
    cases q2 with
    | false =>
      obtain rfl := HE2.out (by trivial) rfl
      obtain rfl := HV0.out (by decide)
      clear HE1 HE2 HE3 HE4 HAP HV0 HV9
      go_wp2_with fail
      go_ret2
      exact ⟨rfl, HW4.out⟩
    | true =>
      by_cases hkk : k1 = k2
      · obtain rfl := HE4.out (by trivial) (by trivial) hkk
        have HC4 := Lib.hid (HAP.out rfl w4 HW4.out)
        have HVV := Lib.hid (HV9.out AP rfl rfl)
        clear HE1 HE2 HE3 HE4 HAP HV0 HV9
        subst hkk
        have hb1 := K2.box1 HK4.out
        have hb2 := K2.box2 HK4.out
        clear x0 y0
        have x0 := cells_get hb1 0
        have x1 := cells_get hb1 1
        have x2 := cells_get hb1 2
        have x3 := cells_get hb1 3
        have y0 := cells_get hb2 0
        have y1 := cells_get hb2 1
        have y2 := cells_get hb2 2
        have y3 := cells_get hb2 3
        simp at x0 x1 x2 x3 y0 y1 y2 y3
        have hk4 := K2.size HK4.out
        clear hb1 hb2
        go_wp2_with fail
        refine HC4.out.mono ?_
        rintro e w5 ⟨a5, n5, c5, rfl, hb5⟩
        have HW5 := Lib.hid (HW4.out.trans (hb5.mono HW4.out.size))
        clear hb5
        go_wp2_with fail
        go_ret2
        exact ⟨by rw [HVV.out]; rfl, HW5.out⟩
      · obtain rfl := HE3.out (by trivial) (by trivial) hkk
        obtain rfl := HV0.out (by decide)
        clear HE1 HE2 HE3 HE4 HAP HV0 HV9
        go_wp2_with fail
        go_ret2
        exact ⟨rfl, HW4.out⟩

end Go.Proofs.Ytpnlocnbcdgamaa.EqI
