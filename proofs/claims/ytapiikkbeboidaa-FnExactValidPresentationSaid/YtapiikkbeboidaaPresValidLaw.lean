
/- The law of ValidPresentation: what the program answers is what the model answers, and the argument stays as it was.
   Conditions: the argument is read as XPres's text says. -/
import Derived.Test.YtapiikkbeboidaaPresValid
import Derived.Test.YtapiikkbeboidaaPresLawKit
import Derived.Deep.RegionWith
namespace Go.Proofs.Ytapiikkbeboidaa.PresValidLaw
set_option linter.unusedVariables false
set_option linter.unusedSimpArgs false
open Go.RowKit Mem Rel Pres PresCopy PresEq PresValid PresLawKit

/-- The law's state: its argument's box, the program's argument and its box. -/
structure St (w : World) (p : P) (va vn vr : Value) (D G : Nat) (Ms : Nat → Nat) (X : Nat) (W : World) : Prop where
  base : Below w.heap.size w W
  arg : ArgBox W w.heap.size p va vn vr
  own : OwnP W D G Ms p
  xb : CopyBox W X D G p
theorem St.step {w : World} {p : P} {va vn vr : Value} {D G : Nat} {Ms : Nat → Nat} {X : Nat} {W W' : World} (h : St w p va vn vr D G Ms X W) (hb : Below W.heap.size W W') : St w p va vn vr D G Ms X W' :=
  ⟨base_step h.base hb, h.arg.step hb, h.own.step hb, h.xb.step hb⟩
theorem St.drew {w : World} {p : P} {va vn vr : Value} {D G : Nat} {Ms : Nat → Nat} {X : Nat} {W : World} (h : St w p va vn vr D G Ms X W) : St w p va vn vr D G Ms X W.drew := h.step ((Below.refl _ _).drew)

set_option maxHeartbeats 2000000 in
theorem law (w : World) (v : Value) (p : P) (hr : PrAt w w.heap.size v p) :
    Calls Try.prog 3 #[v] w fun e w' => e = .returned (.bool true) ∧ Below w.heap.size w w' := by
  have HRW := Lib.hid (fun W (h : Below w.heap.size w W) => hr.below h (Nat.le_refl _))
  obtain ⟨va, vn, vr, rfl, -, -, -⟩ := hr
  have B0 := Lib.hid (base_box (Below.refl _ w) (argObj p va vn vr 28))
  have F0 := Lib.hid (show ArgBox _ w.heap.size p va vn vr from Kept5.new w (.int .i64 p.dom.tapes) (.int .i64 p.dom.start) va vn vr 28)
  obtain ⟨ok, hok⟩ : ∃ ok, ok = okP p := ⟨_, rfl⟩
  have HSO := Lib.hid (fun W v (h : PrAt W W.heap.size v p) => specValid v p W W.heap.size h (Nat.le_refl _))
  have HIO := Lib.hid (fun W v (h : PrAt W W.heap.size v p) => implValid v p W W.heap.size h (Nat.le_refl _))
  rw [← hok] at HSO HIO
  clear hok
  go_enter Try.func3, Try.ntmps3
  go_wp2_with fail
  refine (szPresentation _ p 1048576 _ w.heap.size (HRW.out _ B0.out) B0.out.size (by omega) (by omega)).mono ?_
  rintro e w1 ⟨rfl, hb⟩
  have B1 := Lib.hid (base_step B0.out hb)
  have F1 := Lib.hid (F0.out.step hb)
  clear hb
  obtain ⟨k0, k1, k2, k3, k4, -⟩ := F1.out
  obtain ⟨z, hz⟩ : ∃ z, z = szP 1048576 p := ⟨_, rfl⟩
  rw [← hz]
  have HZ := Lib.hid hz
  clear hz
  by_cases hneg : z < 0
  · go_wp2_with fail
    go_ret
    exact ⟨rfl, B1.out⟩
  · have SH := Lib.hid (shortP_of (p := p) (left := 1048576) (by omega) (Int.le_refl _) (by rw [← HZ.out]; omega))
    go_wp2_with fail
    refine (toPresentation _ p w1 w.heap.size (HRW.out _ B1.out) B1.out.size SH.out).mono ?_
    rintro e w3 ⟨D3, G3, Ms3, rfl, ho, hb⟩
    have B3 := Lib.hid (base_step B1.out hb)
    have F3 := Lib.hid (F1.out.step hb)
    have HS3 := Lib.hid (HSO.out w3 _ ho.reads)
    clear hb ho k0 k1 k2 k3 k4 B1 F1 B0 F0
    go_wp2_with fail
    refine HS3.out.mono ?_
    rintro e w4 ⟨rfl, hb⟩
    have B4 := Lib.hid (base_step B3.out hb)
    have F4 := Lib.hid (F3.out.step hb)
    clear hb HS3 B3 F3
    obtain ⟨k0, k1, k2, k3, k4, -⟩ := F4.out
    go_wp2_with fail
    refine (toPresentation _ p w4 w.heap.size (HRW.out _ B4.out) B4.out.size SH.out).mono ?_
    rintro e w6 ⟨D, G, Ms, rfl, ho, hb⟩
    have S7 := Lib.hid (show St w p va vn vr D G Ms w6.heap.size (w6.alloc (copyObj D G p)) from
      ⟨base_box (base_step B4.out hb) _, (F4.out.step hb).box _, OwnP.box ho _, Kept5.new _ _ _ _ _ _ _⟩)
    have HI7 := Lib.hid (HIO.out _ _ S7.out.own.reads)
    clear hb ho k0 k1 k2 k3 k4 B4 F4
    go_wp2_with fail
    refine HI7.out.mono ?_
    rintro e w8 ⟨rfl, hb⟩
    have S8 := Lib.hid (S7.out.step hb)
    clear hb HI7 S7
    obtain ⟨X, hX⟩ : ∃ X, X = w6.heap.size := ⟨_, rfl⟩
    rw [← hX] at S8
    rw [← hX]
    clear hX
    obtain ⟨q0, q1, q2, q3, q4, hlq⟩ := S8.out.xb
    obtain ⟨k0, k1, k2, k3, k4, hlk⟩ := S8.out.arg
    go_wp2_with fail
    go_region_with (first
      | (go_at_call 7; refine (toPresentation _ p _ w.heap.size (HRW.out _ S8.out.drew.base) S8.out.drew.base.size SH.out).mono ?_; rintro e w11 ⟨D11, G11, Ms11, rfl, ho, hb⟩; have S11 := Lib.hid (S8.out.drew.step hb); have O11 := Lib.hid ho; obtain ⟨p0, p1, p2, p3, p4, -⟩ := S11.out.xb; clear hb ho)
      | (go_at_call 9; refine (eqPresentation _ _ p p w11 w11.heap.size S11.out.own.reads O11.out.reads (Nat.le_refl _)).mono ?_; rw [sameP_self]; rintro e w12 ⟨rfl, hb⟩; have S12 := Lib.hid (S11.out.step hb); clear hb p0 p1 p2 p3 p4))
    all_goals go_wp2
    all_goals go_ret
    all_goals exact ⟨rfl, S12.out.base⟩
end Go.Proofs.Ytapiikkbeboidaa.PresValidLaw
