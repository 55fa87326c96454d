
/- The law of ValidScribe: what the program answers is what the model answers, and the argument stays as it was.
   Conditions: the argument is read as XScr's text says. -/
import Derived.Test.YtiklpejcfdhdkaaScrImpl
import Derived.Deep.RegionWith
namespace Go.Proofs.Ytiklpejcfdhdkaa.ScrValidLaw
set_option linter.unusedVariables false
set_option linter.unusedSimpArgs false
open Go.RowKit Mem Rel Scr ScrValid ScrImpl

/-- The law's state: its argument's box, the program's argument and its box. -/
structure St (w : World) (t : X) (va vn vo : Value) (M X : Nat) (W : World) : Prop where
  base : Below w.heap.size w W
  arg : Kept3 W w.heap.size va vn vo
  own : OwnX W M t
  xb : Kept3 W X (.slice (some ⟨M, 0, none⟩) t.accept.length t.accept.length) (.slice (some ⟨M + 1, 0, none⟩) t.next.length t.next.length) (.slice (some ⟨M + 2 + 3 * t.next.length, 0, none⟩) t.out.length t.out.length)
theorem St.step {w : World} {t : X} {va vn vo : Value} {M X : Nat} {W W' : World} (h : St w t va vn vo M X W) (hb : Below W.heap.size W W') : St w t va vn vo M X W' :=
  ⟨base_step h.base hb, h.arg.step hb, h.own.step hb, h.xb.step hb⟩
theorem St.drew {w : World} {t : X} {va vn vo : Value} {M X : Nat} {W : World} (h : St w t va vn vo M X W) : St w t va vn vo M X W.drew := h.step ((Below.refl _ _).drew)

set_option maxHeartbeats 2000000 in
theorem law (w : World) (v : Value) (t : X) (hr : ScAt w w.heap.size v t) :
    Calls Try.prog 3 #[v] w fun e w' => e = .returned (.bool true) ∧ Below w.heap.size w w' := by
  have HRW := Lib.hid (fun W (h : Below w.heap.size w W) => hr.below h (Nat.le_refl _))
  obtain ⟨va, vn, vo, rfl, -, -, -⟩ := hr
  have B0 := Lib.hid (base_box (Below.refl _ w) (.cells #[va, vn, vo] 26))
  have F0 := Lib.hid (Kept3.new w va vn vo 26)
  obtain ⟨ok, hok⟩ : ∃ ok, ok = okX t := ⟨_, rfl⟩
  have HSO := Lib.hid (fun W v (h : ScAt W W.heap.size v t) => specValid v t W W.heap.size h (Nat.le_refl _))
  have HIO := Lib.hid (fun W v (h : ScAt W W.heap.size v t) => implValid v t W W.heap.size h (Nat.le_refl _))
  rw [← hok] at HSO HIO
  clear hok
  go_enter Try.func3, Try.ntmps3
  go_wp2_with fail
  refine (szScribe _ t 1048576 _ w.heap.size (HRW.out _ B0.out) B0.out.size (by omega) (by omega)).mono ?_
  rintro e w1 ⟨rfl, hb⟩
  have B1 := Lib.hid (base_step B0.out hb)
  have F1 := Lib.hid (F0.out.step hb)
  clear hb
  obtain ⟨k0, k1, k2, -⟩ := F1.out
  obtain ⟨z, hz⟩ : ∃ z, z = szSc 1048576 t := ⟨_, rfl⟩
  rw [← hz]
  have HZ := Lib.hid hz
  clear hz
  by_cases hneg : z < 0
  · go_wp2_with fail
    go_ret
    exact ⟨rfl, B1.out⟩
  · have SH := Lib.hid (shortX_of (x := t) (Int.le_refl _) (by rw [← HZ.out]; omega))
    go_wp2_with fail
    refine (copySc _ t w1 w.heap.size (HRW.out _ B1.out) B1.out.size SH.out).mono ?_
    rintro e w3 ⟨M3, rfl, ho, hb, -⟩
    have B3 := Lib.hid (base_step B1.out hb)
    have F3 := Lib.hid (F1.out.step hb)
    have HS3 := Lib.hid (HSO.out w3 _ ho.reads)
    clear hb ho k0 k1 k2 B1 F1 B0 F0
    go_wp2_with fail
    refine HS3.out.mono ?_
    rintro e w4 ⟨rfl, hb⟩
    have B4 := Lib.hid (base_step B3.out hb)
    have F4 := Lib.hid (F3.out.step hb)
    clear hb HS3 B3 F3
    obtain ⟨k0, k1, k2, -⟩ := F4.out
    go_wp2_with fail
    refine (copySc _ t w4 w.heap.size (HRW.out _ B4.out) B4.out.size SH.out).mono ?_
    rintro e w6 ⟨M, rfl, ho, hb, -⟩
    have S7 := Lib.hid (show St w t va vn vo M w6.heap.size (w6.alloc (.cells #[.slice (some ⟨M, 0, none⟩) t.accept.length t.accept.length, .slice (some ⟨M + 1, 0, none⟩) t.next.length t.next.length, .slice (some ⟨M + 2 + 3 * t.next.length, 0, none⟩) t.out.length t.out.length] 29)) from
      ⟨base_box (base_step B4.out hb) _, (F4.out.step hb).box _, ho.box _, Kept3.new _ _ _ _ _⟩)
    have HI7 := Lib.hid (HIO.out _ _ S7.out.own.reads)
    clear hb ho k0 k1 k2 B4 F4
    go_wp2_with fail
    refine HI7.out.mono ?_
    rintro e w8 ⟨rfl, hb⟩
    have S8 := Lib.hid (S7.out.step hb)
    clear hb HI7 S7
    obtain ⟨X, hX⟩ : ∃ X, X = w6.heap.size := ⟨_, rfl⟩
    rw [← hX] at S8
    rw [← hX]
    clear hX
    obtain ⟨q0, q1, q2, hlq⟩ := S8.out.xb
    obtain ⟨k0, k1, k2, hlk⟩ := S8.out.arg
    go_wp2_with fail
    go_region_with (first
      | (go_at_call 9; refine (copySc _ t _ w.heap.size (HRW.out _ S8.out.drew.base) S8.out.drew.base.size SH.out).mono ?_; rintro e w11 ⟨M11, rfl, ho, hb, -⟩; have S11 := Lib.hid (S8.out.drew.step hb); have O11 := Lib.hid ho; obtain ⟨p0, p1, p2, -⟩ := S11.out.xb; clear hb ho)
      | (go_at_call 11; refine (eqScribe _ _ t t w11 w11.heap.size S11.out.own.reads O11.out.reads (Nat.le_refl _)).mono ?_; rw [sameX_self]; rintro e w12 ⟨rfl, hb⟩; have S12 := Lib.hid (S11.out.step hb); clear hb p0 p1 p2))
    all_goals go_wp2
    all_goals go_ret
    all_goals exact ⟨rfl, S12.out.base⟩
end Go.Proofs.Ytiklpejcfdhdkaa.ScrValidLaw
