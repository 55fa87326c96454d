
/- The law of SamePresentation: what the program answers is what the model answers, and the arguments stay as they were.
   Conditions: the arguments are read as XPres's text says. -/
import Derived.Test.YtapiikkbeboidaaPresSame
import Derived.Test.YtapiikkbeboidaaPresLawKit
import Derived.Deep.RegionWith
import Derived.Deep.DeepCutAuto
import Derived.Deep.CutBlock
namespace Go.Proofs.Ytapiikkbeboidaa.PresSameLaw
set_option linter.unusedVariables false
set_option linter.unusedSimpArgs false
open Go.RowKit Mem Rel Pres PresCopy PresEq PresSame PresLawKit

/-- The boxes of the law's arguments. -/
structure St2 (w : World) (r s : P) (va vn vr ua un ur : Value) (W : World) : Prop where
  base : Below w.heap.size w W
  arg : ArgBox W w.heap.size r va vn vr
  arg2 : ArgBox W (w.heap.size + 1) s ua un ur
theorem St2.step {w : World} {r s : P} {va vn vr ua un ur : Value} {W W' : World} (h : St2 w r s va vn vr ua un ur W) (hb : Below W.heap.size W W') : St2 w r s va vn vr ua un ur W' :=
  ⟨base_step h.base hb, h.arg.step hb, h.arg2.step hb⟩
/-- The program's arguments besides. -/
structure St4 (w : World) (r s : P) (va vn vr ua un ur : Value) (D6 G6 : Nat) (M6 : Nat → Nat) (X6 D7 G7 : Nat) (M7 : Nat → Nat) (X7 : Nat) (W : World) : Prop where
  st : St2 w r s va vn vr ua un ur W
  own : OwnP W D6 G6 M6 r
  own2 : OwnP W D7 G7 M7 s
  xb : CopyBox W X6 D6 G6 r
  xb2 : CopyBox W X7 D7 G7 s
theorem St4.step {w : World} {r s : P} {va vn vr ua un ur : Value} {D6 G6 : Nat} {M6 : Nat → Nat} {X6 D7 G7 : Nat} {M7 : Nat → Nat} {X7 : Nat} {W W' : World} (h : St4 w r s va vn vr ua un ur D6 G6 M6 X6 D7 G7 M7 X7 W) (hb : Below W.heap.size W W') : St4 w r s va vn vr ua un ur D6 G6 M6 X6 D7 G7 M7 X7 W' :=
  ⟨h.st.step hb, h.own.step hb, h.own2.step hb, h.xb.step hb, h.xb2.step hb⟩

set_option maxHeartbeats 4000000 in
theorem law (w : World) (v : Value) (r : P) (hr : PrAt w w.heap.size v r) (u : Value) (s : P) (hs : PrAt w w.heap.size u s) :
    Calls Try.prog 4 #[v, u] w fun e w' => e = .returned (.bool true) ∧ Below w.heap.size w w' := by
  have HRW := Lib.hid (fun W (h : Below w.heap.size w W) => hr.below h (Nat.le_refl _))
  have HSW := Lib.hid (fun W (h : Below w.heap.size w W) => hs.below h (Nat.le_refl _))
  obtain ⟨va, vn, vr, rfl, -, -, -⟩ := hr
  obtain ⟨ua, un, ur, rfl, -, -, -⟩ := hs
  have B0 := Lib.hid (base_box (base_box (Below.refl _ w) (argObj r va vn vr 28)) (argObj s ua un ur 28))
  have F0 := Lib.hid (show ArgBox _ w.heap.size r va vn vr from (Kept5.new w (.int .i64 r.dom.tapes) (.int .i64 r.dom.start) va vn vr 28).box (argObj s ua un ur 28))
  have G0 := Lib.hid (show ArgBox _ (w.alloc (argObj r va vn vr 28)).heap.size s ua un ur from Kept5.new (w.alloc (argObj r va vn vr 28)) (.int .i64 s.dom.tapes) (.int .i64 s.dom.start) ua un ur 28)
  go_enter Try.func4, Try.ntmps4
  go_wp2_with fail
  refine (szPresentation _ r 1048576 _ w.heap.size (HRW.out _ B0.out) B0.out.size (by omega) (by omega)).mono ?_
  rintro e w1 ⟨rfl, hb⟩
  have B1 := Lib.hid (base_step B0.out hb)
  have F1 := Lib.hid (F0.out.step hb)
  have G1' := G0.out.step hb
  clear hb
  simp only [World.size_alloc] at G1'
  have G1 := Lib.hid G1'
  obtain ⟨k0, k1, k2, k3, k4, -⟩ := F1.out
  obtain ⟨l0, l1, l2, l3, l4, -⟩ := G1'
  obtain ⟨z, hz⟩ : ∃ z, z = szP 1048576 r := ⟨_, rfl⟩
  rw [← hz]
  have HZ := Lib.hid hz
  clear hz
  by_cases hneg : z < 0
  · go_wp2_with fail
    go_ret
    exact ⟨rfl, B1.out⟩
  · have SH := Lib.hid (shortP_of (p := r) (left := 1048576) (by omega) (Int.le_refl _) (by rw [← HZ.out]; omega))
    have HL := Lib.hid (show z ≤ 1048576 by rw [HZ.out]; exact szP_low (by omega))
    go_wp2_with fail
    refine (szPresentation _ s z _ w.heap.size (HSW.out _ B1.out) B1.out.size (by omega) HL.out).mono ?_
    rintro e w2 ⟨rfl, hb⟩
    have B2 := Lib.hid (base_step B1.out hb)
    have F2 := Lib.hid (F1.out.step hb)
    have G2 := Lib.hid (G1.out.step hb)
    clear hb k0 k1 k2 k3 k4 l0 l1 l2 l3 l4
    obtain ⟨k0, k1, k2, k3, k4, -⟩ := F2.out
    obtain ⟨l0, l1, l2, l3, l4, -⟩ := G2.out
    obtain ⟨y, hy⟩ : ∃ y, y = szP z s := ⟨_, rfl⟩
    rw [← hy]
    have HY := Lib.hid hy
    clear hy
    by_cases hneg2 : y < 0
    · go_wp2_with fail
      go_ret
      exact ⟨rfl, B2.out⟩
    · have SH2 := Lib.hid (shortP_of (p := s) (left := z) (by omega) HL.out (by rw [← HY.out]; omega))
      have S2 := Lib.hid (show St2 w r s va vn vr ua un ur w2 from ⟨B2.out, F2.out, G2.out⟩)
      obtain ⟨ok, hok⟩ : ∃ ok, ok = sameP r s := ⟨_, rfl⟩
      have HSO := Lib.hid (fun W B v u (h : PrAt W B v r) (g : PrAt W B u s) (hB : B ≤ W.heap.size) => specSame v u r s W B h g hB)
      have HIO := Lib.hid (fun W B v u (h : PrAt W B v r) (g : PrAt W B u s) (hB : B ≤ W.heap.size) => implSame v u r s W B h g hB)
      rw [← hok] at HSO HIO
      clear hok
      go_upto_region 8 with fail
      go_cut [6] (fun v6 wx => v6 = .bool ok ∧ St2 w r s va vn vr ua un ur wx)
      case first =>
        go_region_with (first
          | (go_at_call_of 7 va; refine (toPresentation _ r _ w.heap.size (HRW.out _ B2.out.drew) B2.out.drew.size SH.out).mono ?_; rintro e w3 ⟨D3, G3, M3, rfl, ho, hb⟩; have S3 := Lib.hid (S2.out.step (((Below.refl _ _).drew).trans hb)); have O3 := Lib.hid ho; obtain ⟨p0, p1, p2, p3, p4, -⟩ := S3.out.arg2; clear hb ho)
          | (go_at_call_of 7 ua; refine (toPresentation _ s w3 w.heap.size (HSW.out _ S3.out.base) S3.out.base.size SH2.out).mono ?_; rintro e w4 ⟨D4, G4, M4, rfl, ho, hb⟩; have S4 := Lib.hid (S3.out.step hb); have O4 := Lib.hid (O3.out.step hb); have Q4 := Lib.hid ho; clear hb ho)
          | (go_at_call 10; refine (HSO.out w4 w4.heap.size _ _ O4.out.reads Q4.out.reads (Nat.le_refl _)).mono ?_; rintro e w5 ⟨rfl, hb⟩; have S5 := Lib.hid (S4.out.step hb); clear hb p0 p1 p2 p3 p4))
        all_goals
          go_wp2_with fail
          go_meet
          exact ⟨rfl, S5.out⟩
      case rest =>
        obtain ⟨rfl, hck⟩ := hcut
        have S5 := Lib.hid hck
        clear hck k0 k1 k2 k3 k4 l0 l1 l2 l3 l4 S2 B2 F2 G2 HSO
        obtain ⟨k0, k1, k2, k3, k4, -⟩ := S5.out.arg
        go_wp2_with fail
        refine (toPresentation _ r _ w.heap.size (HRW.out _ S5.out.base) S5.out.base.size SH.out).mono ?_
        rintro e w6 ⟨D6, G6, M6, rfl, ho, hb⟩
        have S6 := Lib.hid (S5.out.step hb)
        have S6b := Lib.hid (S6.out.step ((Below.refl _ _).alloc (Nat.le_refl _) (copyObj D6 G6 r)))
        have O6 := Lib.hid (OwnP.box ho (copyObj D6 G6 r))
        have K6 := Lib.hid (show CopyBox _ w6.heap.size D6 G6 r from Kept5.new w6 _ _ _ _ _ 34)
        clear hb ho k0 k1 k2 k3 k4 S5
        obtain ⟨l0, l1, l2, l3, l4, hlt⟩ := S6.out.arg2
        go_wp2_with fail
        refine (toPresentation _ s _ w.heap.size (HSW.out _ S6b.out.base) S6b.out.base.size SH2.out).mono ?_
        rintro e w7 ⟨D7, G7, M7, rfl, ho, hb⟩
        have S7 := Lib.hid (show St4 w r s va vn vr ua un ur D6 G6 M6 w6.heap.size D7 G7 M7 w7.heap.size (w7.alloc (copyObj D7 G7 s)) from
          ⟨(S6b.out.step hb).step ((Below.refl _ _).alloc (Nat.le_refl _) _), OwnP.box (O6.out.step hb) _, OwnP.box ho _, (K6.out.step hb).box _, Kept5.new _ _ _ _ _ _ _⟩)
        have K7 := K6.out.step hb
        have HI7 := Lib.hid (HIO.out _ _ _ _ S7.out.own.reads S7.out.own2.reads (Nat.le_refl _))
        clear hb ho l0 l1 l2 l3 l4 S6 S6b O6 K6
        obtain ⟨q0, q1, q2, q3, q4, hlq⟩ := K7
        go_wp2_with fail
        refine HI7.out.mono ?_
        rintro e w8 ⟨rfl, hb⟩
        have S8' := Lib.hid (S7.out.step hb)
        clear hb HI7 S7 q0 q1 q2 q3 q4 hlq
        obtain ⟨X6, hX6⟩ : ∃ X, X = w6.heap.size := ⟨_, rfl⟩
        obtain ⟨X7, hX7⟩ : ∃ X, X = w7.heap.size := ⟨_, rfl⟩
        rw [← hX6, ← hX7] at S8'
        rw [← hX6, ← hX7]
        clear hX6 hX7
        have S8 := S8'
        clear S8'
        obtain ⟨k0, k1, k2, k3, k4, -⟩ := S8.out.st.arg
        obtain ⟨q0, q1, q2, q3, q4, -⟩ := S8.out.xb
        have hkk : (ok != ok) = false := by simp
        have hkk2 : (ok == ok) = true := by simp
        go_upto_region 14 with fail
        go_cut [39] (fun v39 wx => v39 = .bool false ∧ St4 w r s va vn vr ua un ur D6 G6 M6 X6 D7 G7 M7 X7 wx)
        case first =>
          go_region_with (first
            | (go_at_call 7; refine (toPresentation _ r _ w.heap.size (HRW.out _ S8.out.st.base.drew) S8.out.st.base.drew.size SH.out).mono ?_; rintro e w9 ⟨D9, G9, M9, rfl, ho, hb⟩; have S9 := Lib.hid (S8.out.step (((Below.refl _ _).drew).trans hb)); have P9 := Lib.hid ho; obtain ⟨p0, p1, p2, p3, p4, -⟩ := S9.out.xb; clear hb ho)
            | (go_at_call 9; refine (eqPresentation _ _ r r w9 w9.heap.size S9.out.own.reads P9.out.reads (Nat.le_refl _)).mono ?_; rw [sameP_self]; rintro e w10 ⟨rfl, hb⟩; have S10 := Lib.hid (S9.out.step hb); clear hb p0 p1 p2 p3 p4))
          all_goals
            go_wp2_with fail
            go_meet
            exact ⟨rfl, S10.out⟩
        case rest =>
          obtain ⟨rfl, hck⟩ := hcut
          have S10 := Lib.hid hck
          clear hck k0 k1 k2 k3 k4 q0 q1 q2 q3 q4 S8
          obtain ⟨l0, l1, l2, l3, l4, -⟩ := S10.out.st.arg2
          obtain ⟨q0, q1, q2, q3, q4, -⟩ := S10.out.xb2
          go_wp2_with fail
          go_region_with (first
            | (go_at_call 7; refine (toPresentation _ s _ w.heap.size (HSW.out _ S10.out.st.base.drew) S10.out.st.base.drew.size SH2.out).mono ?_; rintro e w11 ⟨D11, G11, M11, rfl, ho, hb⟩; have S11 := Lib.hid (S10.out.step (((Below.refl _ _).drew).trans hb)); have P11 := Lib.hid ho; obtain ⟨p0, p1, p2, p3, p4, -⟩ := S11.out.xb2; clear hb ho)
            | (go_at_call 9; refine (eqPresentation _ _ s s w11 w11.heap.size S11.out.own2.reads P11.out.reads (Nat.le_refl _)).mono ?_; rw [sameP_self]; rintro e w12 ⟨rfl, hb⟩; have S12 := Lib.hid (S11.out.step hb); clear hb p0 p1 p2 p3 p4))
          all_goals
            go_wp2_with fail
            go_ret
            exact ⟨rfl, S12.out.st.base⟩
end Go.Proofs.Ytapiikkbeboidaa.PresSameLaw
