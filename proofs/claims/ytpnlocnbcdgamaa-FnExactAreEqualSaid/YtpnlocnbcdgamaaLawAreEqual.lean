
/- The law of AreEqual: what the program answers is what the model answers, and the arguments stay as they were.
   Conditions: the relations are read as XRel's text says. -/
import Derived.Test.YtpnlocnbcdgamaaSameLaw0
import Derived.Test.YtpnlocnbcdgamaaEqS
import Derived.Test.YtpnlocnbcdgamaaEqI
import Derived.Deep.RegionWith
namespace Go.Proofs.Ytpnlocnbcdgamaa.LawAreEqual
set_option linter.unusedVariables false
set_option linter.unusedSimpArgs false
set_option linter.ambiguousOpen false
set_option maxRecDepth 100000
open Go.RowKit Mem Rel SameLaw0

set_option maxHeartbeats 4000000 in
theorem law (w : World) (v : Value) (r : R) (hr : RelAt w w.heap.size v r) (u : Value) (s : R) (hs : RelAt w w.heap.size u s) :
    Calls Try.prog 3 #[v, u] w fun e w' => e = .returned (.bool true) ∧ Below w.heap.size w w' := by
  have HRW := Lib.hid (fun W (h : Below w.heap.size w W) => hr.below h (Nat.le_refl _))
  have HSW := Lib.hid (fun W (h : Below w.heap.size w W) => hs.below h (Nat.le_refl _))
  have HSP := Lib.hid (fun v u W h h' => EqS.specEqual v u r s W W.heap.size h h' (Nat.le_refl _))
  have HIP := Lib.hid (fun v u W h h' => EqI.areEqualI v u r s W W.heap.size h h' (Nat.le_refl _))
  obtain ⟨V, hV⟩ : ∃ x, x = EqI.eqV r s := ⟨_, rfl⟩
  obtain ⟨C, hC⟩ : ∃ x, x = Alike.alikeC r s := ⟨_, rfl⟩
  rw [← hV, ← hC] at HSP HIP
  clear hV hC
  obtain ⟨va, vn, rfl, -, -⟩ := hr
  obtain ⟨ua, un, rfl, -, -⟩ := hs
  have B0 := Lib.hid (base_box (base_box (Below.refl _ w) (.cells #[.int .i64 r.tapes, .int .i64 r.start, va, vn] 25)) (.cells #[.int .i64 s.tapes, .int .i64 s.start, ua, un] 25))
  have F0 := Lib.hid ((Kept.new w (.int .i64 r.tapes) (.int .i64 r.start) va vn 25).box (.cells #[.int .i64 s.tapes, .int .i64 s.start, ua, un] 25))
  have G0 := Lib.hid (Kept.new (w.alloc (.cells #[.int .i64 r.tapes, .int .i64 r.start, va, vn] 25)) (.int .i64 s.tapes) (.int .i64 s.start) ua un 25)
  go_enter Try.func3, Try.ntmps3
  go_wp2_with fail
  refine (szRelation _ r 1048576 _ w.heap.size (HRW.out _ B0.out) B0.out.size (by omega) (by omega)).mono ?_
  rintro e w1 ⟨rfl, hb⟩
  have B1 := Lib.hid (base_step B0.out hb)
  have F1 := Lib.hid (F0.out.step hb)
  have G1' := G0.out.step hb
  clear hb
  simp only [World.size_alloc] at G1'
  have G1 := Lib.hid G1'
  obtain ⟨⟨k0, k1, k2, k3⟩, -⟩ := F1.out
  obtain ⟨⟨l0, l1, l2, l3⟩, -⟩ := G1'
  obtain ⟨z, hz⟩ : ∃ z, z = szRel 1048576 r := ⟨_, rfl⟩
  rw [← hz]
  have HZ := Lib.hid hz
  clear hz
  by_cases hneg : z < 0
  · go_wp2_with fail
    go_ret
    exact ⟨rfl, B1.out⟩
  · have SH := Lib.hid (short_of (r := r) (by rw [← HZ.out]; omega))
    have HL := Lib.hid (show z ≤ 1048576 by rw [HZ.out]; exact szRel_low (by omega))
    go_wp2_with fail
    refine (szRelation _ s z _ w.heap.size (HSW.out _ B1.out) B1.out.size (by omega) HL.out).mono ?_
    rintro e w2 ⟨rfl, hb⟩
    have B2 := Lib.hid (base_step B1.out hb)
    have F2 := Lib.hid (F1.out.step hb)
    have G2 := Lib.hid (G1.out.step hb)
    clear hb k0 k1 k2 k3 l0 l1 l2 l3
    obtain ⟨⟨k0, k1, k2, k3⟩, -⟩ := F2.out
    obtain ⟨⟨l0, l1, l2, l3⟩, -⟩ := G2.out
    obtain ⟨y, hy⟩ : ∃ y, y = szRel z s := ⟨_, rfl⟩
    rw [← hy]
    have HY := Lib.hid hy
    clear hy
    by_cases hneg2 : y < 0
    · go_wp2_with fail
      go_ret
      exact ⟨rfl, B2.out⟩
    · have SH2 := Lib.hid (short_of' (r := s) HL.out (by rw [← HY.out]; omega))
      go_wp2_with fail
      go_region_with (first
        | (go_at_call_of 10 va; refine (copyOwn _ r _ w.heap.size (HRW.out _ B2.out.drew) B2.out.drew.size SH.out).mono ?_; rintro e w3 ⟨M3, rfl, ho, hb⟩; have B3 := Lib.hid (base_step B2.out.drew hb); have F3 := Lib.hid (F2.out.drew.step hb); have G3 := Lib.hid (G2.out.drew.step hb); have O3 := Lib.hid ho; obtain ⟨⟨p0, p1, p2, p3⟩, -⟩ := G3.out; clear hb ho)
        | (go_at_call_of 10 ua; refine (copyOwn _ s w3 w.heap.size (HSW.out _ B3.out) B3.out.size SH2.out).mono ?_; rintro e w4 ⟨M4, rfl, ho, hb⟩; have B4 := Lib.hid (base_step B3.out hb); have F4 := Lib.hid (F3.out.step hb); have G4 := Lib.hid (G3.out.step hb); have O4 := Lib.hid (O3.out.step hb); have Q4 := Lib.hid ho; clear hb ho)
        | (go_at_call 9; refine (HSP.out _ _ w4 O4.out.reads Q4.out.reads).mono ?_; rintro e w5 ⟨rfl, hb⟩; have B5 := Lib.hid (base_step B4.out hb); have F5 := Lib.hid (F4.out.step hb); have G5 := Lib.hid (G4.out.step hb); clear hb p0 p1 p2 p3))
      all_goals
        clear k0 k1 k2 k3 l0 l1 l2 l3 O3 O4 Q4 B3 F3 G3 B4 F4 G4
        obtain ⟨⟨k0, k1, k2, k3⟩, -⟩ := F5.out
        go_wp2_with fail
        refine (copyOwn _ r w5 w.heap.size (HRW.out _ B5.out) B5.out.size SH.out).mono ?_
        rintro e w6 ⟨M6, rfl, ho, hb⟩
        have B6 := Lib.hid (base_box (base_step B5.out hb) (.cells #[.int .i64 r.tapes, .int .i64 r.start, .slice (some ⟨M6, 0, none⟩) r.accept.length r.accept.length, .slice (some ⟨M6 + 1, 0, none⟩) r.next.length r.next.length] 29))
        have F6 := Lib.hid ((F5.out.step hb).box (.cells #[.int .i64 r.tapes, .int .i64 r.start, .slice (some ⟨M6, 0, none⟩) r.accept.length r.accept.length, .slice (some ⟨M6 + 1, 0, none⟩) r.next.length r.next.length] 29))
        have G6 := (G5.out.step hb).box (.cells #[.int .i64 r.tapes, .int .i64 r.start, .slice (some ⟨M6, 0, none⟩) r.accept.length r.accept.length, .slice (some ⟨M6 + 1, 0, none⟩) r.next.length r.next.length] 29)
        have O6 := Lib.hid (ho.box (.cells #[.int .i64 r.tapes, .int .i64 r.start, .slice (some ⟨M6, 0, none⟩) r.accept.length r.accept.length, .slice (some ⟨M6 + 1, 0, none⟩) r.next.length r.next.length] 29))
        have K6 := Lib.hid (Kept.new w6 (.int .i64 r.tapes) (.int .i64 r.start) (.slice (some ⟨M6, 0, none⟩) r.accept.length r.accept.length) (.slice (some ⟨M6 + 1, 0, none⟩) r.next.length r.next.length) 29)
        have G6w := G5.out.step hb
        have hlt := G6w.lt
        obtain ⟨⟨l0, l1, l2, l3⟩, -⟩ := G6w
        have G6 := Lib.hid G6
        clear hb ho k0 k1 k2 k3
        go_wp2_with fail
        refine (copyOwn _ s _ w.heap.size (HSW.out _ B6.out) B6.out.size SH2.out).mono ?_
        rintro e w7 ⟨M7, rfl, ho, hb⟩
        have B7 := Lib.hid (base_box (base_step B6.out hb) (.cells #[.int .i64 s.tapes, .int .i64 s.start, .slice (some ⟨M7, 0, none⟩) s.accept.length s.accept.length, .slice (some ⟨M7 + 1, 0, none⟩) s.next.length s.next.length] 29))
        have F7 := Lib.hid ((F6.out.step hb).box (.cells #[.int .i64 s.tapes, .int .i64 s.start, .slice (some ⟨M7, 0, none⟩) s.accept.length s.accept.length, .slice (some ⟨M7 + 1, 0, none⟩) s.next.length s.next.length] 29))
        have G7 := Lib.hid ((G6.out.step hb).box (.cells #[.int .i64 s.tapes, .int .i64 s.start, .slice (some ⟨M7, 0, none⟩) s.accept.length s.accept.length, .slice (some ⟨M7 + 1, 0, none⟩) s.next.length s.next.length] 29))
        have O7 := Lib.hid ((O6.out.step hb).box (.cells #[.int .i64 s.tapes, .int .i64 s.start, .slice (some ⟨M7, 0, none⟩) s.accept.length s.accept.length, .slice (some ⟨M7 + 1, 0, none⟩) s.next.length s.next.length] 29))
        have Q7 := Lib.hid (ho.box (.cells #[.int .i64 s.tapes, .int .i64 s.start, .slice (some ⟨M7, 0, none⟩) s.accept.length s.accept.length, .slice (some ⟨M7 + 1, 0, none⟩) s.next.length s.next.length] 29))
        have K7 := Lib.hid ((K6.out.step hb).box (.cells #[.int .i64 s.tapes, .int .i64 s.start, .slice (some ⟨M7, 0, none⟩) s.accept.length s.accept.length, .slice (some ⟨M7 + 1, 0, none⟩) s.next.length s.next.length] 29))
        have L7 := Lib.hid (Kept.new w7 (.int .i64 s.tapes) (.int .i64 s.start) (.slice (some ⟨M7, 0, none⟩) s.accept.length s.accept.length) (.slice (some ⟨M7 + 1, 0, none⟩) s.next.length s.next.length) 29)
        have K7w := K6.out.step hb
        have hlt7 := K7w.lt
        obtain ⟨⟨k0, k1, k2, k3⟩, -⟩ := K7w
        clear hb ho l0 l1 l2 l3 hlt
        go_wp2_with fail
        refine (HIP.out _ _ _ O7.out.reads Q7.out.reads).mono ?_
        rintro e w8 ⟨rfl, hb⟩
        have B8 := Lib.hid (base_step B7.out hb)
        have F8 := Lib.hid (F7.out.step hb)
        have G8 := Lib.hid (G7.out.step hb)
        have O8 := Lib.hid (O7.out.step hb)
        have Q8 := Lib.hid (Q7.out.step hb)
        have K8 := Lib.hid (K7.out.step hb)
        have L8 := Lib.hid (L7.out.step hb)
        clear hb k0 k1 k2 k3 hlt7
        obtain ⟨X6, hX6⟩ : ∃ X, X = w6.heap.size := ⟨_, rfl⟩
        rw [← hX6] at K8
        rw [← hX6]
        obtain ⟨X7, hX7⟩ : ∃ X, X = w7.heap.size := ⟨_, rfl⟩
        rw [← hX7] at L8
        rw [← hX7]
        clear hX6 hX7
        obtain ⟨⟨k0, k1, k2, k3⟩, -⟩ := F8.out
        obtain ⟨⟨q0, q1, q2, q3⟩, -⟩ := K8.out
        go_wp2_with fail
        go_region_with (first
          | (go_at_call 10; refine (copyOwn _ r _ w.heap.size (HRW.out _ B8.out.drew) B8.out.drew.size SH.out).mono ?_; rintro e w9 ⟨M9, rfl, ho, hb⟩; have B9 := Lib.hid (base_step B8.out.drew hb); have G9 := Lib.hid (G8.out.drew.step hb); have O9 := Lib.hid (O8.out.drew.step hb); have Q9 := Lib.hid (Q8.out.drew.step hb); have K9 := Lib.hid (K8.out.drew.step hb); have L9 := Lib.hid (L8.out.drew.step hb); have P9 := Lib.hid ho; obtain ⟨⟨p0, p1, p2, p3⟩, -⟩ := K9.out; clear hb ho)
          | (go_at_call 12; refine (eqRelation _ _ r r w9 w9.heap.size O9.out.reads P9.out.reads (Nat.le_refl _)).mono ?_; rw [sameRel_self]; rintro e w10 ⟨rfl, hb⟩; have B10 := Lib.hid (base_step B9.out hb); have G10 := Lib.hid (G9.out.step hb); have Q10 := Lib.hid (Q9.out.step hb); have L10 := Lib.hid (L9.out.step hb); clear hb p0 p1 p2 p3))
        all_goals
          clear k0 k1 k2 k3 q0 q1 q2 q3
          obtain ⟨⟨l0, l1, l2, l3⟩, -⟩ := G10.out
          obtain ⟨⟨q0, q1, q2, q3⟩, -⟩ := L10.out
          go_wp2_with fail
          go_region_with (first
            | (go_at_call 10; refine (copyOwn _ s _ w.heap.size (HSW.out _ B10.out.drew) B10.out.drew.size SH2.out).mono ?_; rintro e w11 ⟨M11, rfl, ho, hb⟩; have B11 := Lib.hid (base_step B10.out.drew hb); have Q11 := Lib.hid (Q10.out.drew.step hb); have L11 := Lib.hid (L10.out.drew.step hb); have P11 := Lib.hid ho; obtain ⟨⟨p0, p1, p2, p3⟩, -⟩ := L11.out; clear hb ho)
            | (go_at_call 12; refine (eqRelation _ _ s s w11 w11.heap.size Q11.out.reads P11.out.reads (Nat.le_refl _)).mono ?_; rw [sameRel_self]; rintro e w12 ⟨rfl, hb⟩; have B12 := Lib.hid (base_step B11.out hb); clear hb p0 p1 p2 p3))
          all_goals
            go_wp2_with fail
            go_ret
            exact ⟨rfl, B12.out⟩
end Go.Proofs.Ytpnlocnbcdgamaa.LawAreEqual
