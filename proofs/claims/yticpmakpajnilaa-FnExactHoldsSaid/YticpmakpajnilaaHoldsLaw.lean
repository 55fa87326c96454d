
/- The law of Holds: what the program answers is what the model answers, and the arguments stay as they were.
   Conditions: the arguments are read as XRel's and XStrs' texts say. -/
import Derived.Test.YticpmakpajnilaaHolds
import Derived.Deep.RegionWith
namespace Go.Proofs.Yticpmakpajnilaa.HoldsLaw
open Go.RowKit Mem Copy Rel Strs Holds

/-- A copy of texts that the law owns. -/
structure OwnS (W : World) (M : Nat) (ss : List ByteArray) : Prop where
  row : W.rowIs M 9 ss.length (fun i => .string (ss.getD i ByteArray.empty))
  lt : M < W.heap.size
  sz : ∀ i, i < ss.length → (ss.getD i ByteArray.empty).size ≤ maxLen
  short : ss.length ≤ 1048576

theorem OwnS.step {W W' : World} {M : Nat} {ss : List ByteArray} (h : OwnS W M ss) (hb : Below W.heap.size W W') : OwnS W' M ss :=
  ⟨rowIs_below h.row hb h.lt, Nat.lt_of_lt_of_le h.lt hb.size, h.sz, h.short⟩
theorem OwnS.drew {W : World} {M : Nat} {ss : List ByteArray} (h : OwnS W M ss) : OwnS W.drew M ss := h.step ((Below.refl _ _).drew)
theorem OwnS.box {W : World} {M : Nat} {ss : List ByteArray} (h : OwnS W M ss) (o : Obj) : OwnS (W.alloc o) M ss := h.step ((Below.refl _ _).alloc (Nat.le_refl _) _)
theorem OwnS.reads {W : World} {M : Nat} {ss : List ByteArray} (h : OwnS W M ss) : StrsAt W W.heap.size (.slice (some ⟨M, 0, none⟩) ss.length ss.length) ss :=
  ⟨Sl.of_row h.row _ h.lt (by have := h.short; unfold maxLen; omega), h.sz⟩

theorem copyS (va : Value) (ss : List ByteArray) (W : World) (B : Nat) (ha : StrsAt W B va ss) (hB : B ≤ W.heap.size) (hs : ss.length ≤ 1048576) :
    Calls Try.prog 30 #[va] W fun e w' => ∃ M, e = .returned (.slice (some ⟨M, 0, none⟩) ss.length ss.length) ∧ OwnS w' M ss ∧ Below W.heap.size W w' :=
  (copyStrs ss va W B ha hB hs).mono fun _ _ ⟨he, hr, hb, hz⟩ => ⟨_, he, ⟨hr, by omega, ha.2, hs⟩, hb⟩

theorem szRowsTo_low (xss : List (List Int)) : ∀ left : Int, -1 ≤ left → szRowsTo left xss ≤ left := by
  induction xss with
  | nil => intro left _; exact Int.le_refl _
  | cons y r ih =>
    intro left h
    unfold szRowsTo
    by_cases hc : left < (y.length : Int)
    · rw [if_pos hc]; omega
    · rw [if_neg hc]
      have := ih (left - y.length) (by omega)
      omega

theorem szRel_low {left : Int} {r : R} (h : 0 ≤ left) : szRel left r ≤ left := by
  unfold szRel
  by_cases h1 : left < (r.accept.length : Int)
  · rw [if_pos h1]; omega
  · rw [if_neg h1]
    unfold szRows
    by_cases h2 : left - r.accept.length < (r.next.length : Int)
    · rw [if_pos h2]; omega
    · rw [if_neg h2]
      have := szRowsTo_low r.next (left - r.accept.length - r.next.length) (by omega)
      omega

theorem holdsV_eq (r : R) (ss : List ByteArray) : holdsV r ss = .tuple #[.bool (holdsB r ss), .int .i64 (holdsC r ss)] := rfl

set_option maxHeartbeats 4000000 in
theorem law (w : World) (v : Value) (r : R) (hr : RelAt w w.heap.size v r) (va : Value) (ss : List ByteArray) (ha : StrsAt w w.heap.size va ss) :
    Calls Try.prog 9 #[v, va] w fun e w' => e = .returned (.bool true) ∧ Below w.heap.size w w' := by
  have HRW := Lib.hid (fun W (h : Below w.heap.size w W) => hr.below h (Nat.le_refl _))
  have HSW := Lib.hid (fun W (h : Below w.heap.size w W) => ha.below h (Nat.le_refl _))
  obtain ⟨ra, rn, rfl, -, -⟩ := hr
  clear ha
  have B0 := Lib.hid (base_box (Below.refl _ w) (.cells #[.int .i64 r.tapes, .int .i64 r.start, ra, rn] 31))
  have F0 := Lib.hid (Kept.new w (.int .i64 r.tapes) (.int .i64 r.start) ra rn 31)
  go_enter Try.func9, Try.ntmps9
  go_wp2_with fail
  refine (szRelation _ r 1048576 _ w.heap.size (HRW.out _ B0.out) B0.out.size (by omega) (by omega)).mono ?_
  rintro e w1 ⟨rfl, hb⟩
  have B1 := Lib.hid (base_step B0.out hb)
  have F1 := Lib.hid (F0.out.step hb)
  clear hb
  obtain ⟨z, hz⟩ : ∃ z, z = szRel 1048576 r := ⟨_, rfl⟩
  rw [← hz]
  have HZ := Lib.hid hz
  clear hz
  by_cases hneg : z < 0
  · go_wp2_with fail
    go_ret
    exact ⟨rfl, B1.out⟩
  · have SH := Lib.hid (short_of (r := r) (by rw [← HZ.out]; omega))
    have HL := Lib.hid (show z ≤ 1048576 by rw [HZ.out]; exact szRel_low (by omega))
    go_wp2_with fail
    refine (szStrings ss va z _ w.heap.size (HSW.out _ B1.out) (by omega) HL.out).mono ?_
    rintro e w' ⟨rfl, rfl⟩
    obtain ⟨y, hy⟩ : ∃ y, y = szStrs z ss := ⟨_, rfl⟩
    rw [← hy]
    have HY := Lib.hid hy
    clear hy
    obtain ⟨⟨k0, k1, k2, k3⟩, -⟩ := F1.out
    by_cases hneg2 : y < 0
    · go_wp2_with fail
      go_ret
      exact ⟨rfl, B1.out⟩
    · have SL := Lib.hid (show ss.length ≤ 1048576 by have := szStrs_len (left := z) (ss := ss) (by rw [← HY.out]; omega); have := HL.out; omega)
      obtain ⟨hb0, hb0e⟩ : ∃ b, b = holdsB r ss := ⟨_, rfl⟩
      obtain ⟨hc0, hc0e⟩ : ∃ c, c = holdsC r ss := ⟨_, rfl⟩
      have HV := Lib.hid (show holdsV r ss = .tuple #[.bool hb0, .int .i64 hc0] by rw [holdsV_eq, hb0e, hc0e])
      clear hb0e hc0e
      go_wp2_with fail
      refine (copyOwn _ r w1 w.heap.size (HRW.out _ B1.out) B1.out.size SH.out).mono ?_
      rintro e w2 ⟨M2, rfl, ho, hb⟩
      have B2 := Lib.hid (base_step B1.out hb)
      have F2 := Lib.hid (F1.out.step hb)
      have O2 := Lib.hid ho
      clear ho hb k0 k1 k2 k3
      go_wp2_with fail
      refine (copyS va ss w2 w.heap.size (HSW.out _ B2.out) B2.out.size SL.out).mono ?_
      rintro e w3 ⟨M3, rfl, ho, hb⟩
      have B3 := Lib.hid (base_step B2.out hb)
      have F3 := Lib.hid (F2.out.step hb)
      have O3 := Lib.hid (O2.out.step hb)
      have S3 := Lib.hid ho
      clear ho hb
      go_wp2_with fail
      refine (specHolds _ r _ ss w3 w3.heap.size O3.out.reads S3.out.reads (Nat.le_refl _)).mono ?_
      rw [HV.out]
      rintro e w4 ⟨rfl, hb⟩
      have B4 := Lib.hid (base_step B3.out hb)
      have F4 := Lib.hid (F3.out.step hb)
      clear hb O2 O3 S3 F2 F3 F0 F1
      obtain ⟨⟨k0, k1, k2, k3⟩, -⟩ := F4.out
      go_wp2_with fail
      refine (copyOwn _ r w4 w.heap.size (HRW.out _ B4.out) B4.out.size SH.out).mono ?_
      rintro e w6 ⟨M6, rfl, ho, hb⟩
      have B6 := Lib.hid (base_box (base_step B4.out hb) (.cells #[.int .i64 r.tapes, .int .i64 r.start, .slice (some ⟨M6, 0, none⟩) r.accept.length r.accept.length, .slice (some ⟨M6 + 1, 0, none⟩) r.next.length r.next.length] 34))
      have F6 := Lib.hid ((F4.out.step hb).box (.cells #[.int .i64 r.tapes, .int .i64 r.start, .slice (some ⟨M6, 0, none⟩) r.accept.length r.accept.length, .slice (some ⟨M6 + 1, 0, none⟩) r.next.length r.next.length] 34))
      have O6 := Lib.hid (ho.box (.cells #[.int .i64 r.tapes, .int .i64 r.start, .slice (some ⟨M6, 0, none⟩) r.accept.length r.accept.length, .slice (some ⟨M6 + 1, 0, none⟩) r.next.length r.next.length] 34))
      have K6 := Lib.hid (Kept.new w6 (.int .i64 r.tapes) (.int .i64 r.start) (.slice (some ⟨M6, 0, none⟩) r.accept.length r.accept.length) (.slice (some ⟨M6 + 1, 0, none⟩) r.next.length r.next.length) 34)
      clear ho hb k0 k1 k2 k3
      go_wp2_with fail
      refine (copyS va ss _ w.heap.size (HSW.out _ B6.out) B6.out.size SL.out).mono ?_
      rintro e w7 ⟨M7, rfl, ho, hb⟩
      have B7 := Lib.hid (base_step B6.out hb)
      have F7 := Lib.hid (F6.out.step hb)
      have O7 := Lib.hid (O6.out.step hb)
      have K7 := Lib.hid (K6.out.step hb)
      have S7 := Lib.hid ho
      clear ho hb
      obtain ⟨X, hX⟩ : ∃ X, X = w6.heap.size := ⟨_, rfl⟩
      rw [← hX] at K7
      rw [← hX]
      clear hX
      obtain ⟨⟨q0, q1, q2, q3⟩, -⟩ := K7.out
      go_wp2_with fail
      refine (implHolds _ r _ ss w7 w7.heap.size O7.out.reads S7.out.reads (Nat.le_refl _)).mono ?_
      rw [HV.out]
      rintro e w8 ⟨rfl, hb⟩
      have B8 := Lib.hid (base_step B7.out hb)
      have F8 := Lib.hid (F7.out.step hb)
      have O8 := Lib.hid (O7.out.step hb)
      have K8 := Lib.hid (K7.out.step hb)
      have S8 := Lib.hid (S7.out.step hb)
      clear hb q0 q1 q2 q3
      obtain ⟨⟨k0, k1, k2, k3⟩, -⟩ := F8.out
      obtain ⟨⟨q0, q1, q2, q3⟩, -⟩ := K8.out
      have hbb : (hb0 == hb0) = true := by simp
      go_wp2_with fail
      go_region_with (first
        | (go_at_call 23; refine (copyOwn _ r _ w.heap.size (HRW.out _ B8.out.drew) B8.out.drew.size SH.out).mono ?_; rintro e w9 ⟨M9, rfl, ho, hb⟩; have B9 := Lib.hid (base_step B8.out.drew hb); have O9 := Lib.hid (O8.out.drew.step hb); have S9 := Lib.hid (S8.out.drew.step hb); have K9 := Lib.hid (K8.out.drew.step hb); have P9 := Lib.hid ho; obtain ⟨⟨p0, p1, p2, p3⟩, -⟩ := K9.out; clear hb ho)
        | (go_at_call 25; refine (eqRelation _ _ r r w9 w9.heap.size O9.out.reads P9.out.reads (Nat.le_refl _)).mono ?_; rw [sameRel_self]; rintro e w10 ⟨rfl, hb⟩; have B10 := Lib.hid (base_step B9.out hb); have S10 := Lib.hid (S9.out.step hb); clear hb p0 p1 p2 p3))
      all_goals
        clear k0 k1 k2 k3 q0 q1 q2 q3
        go_wp2_with fail
        refine (copyS va ss _ w.heap.size (HSW.out _ B10.out) B10.out.size SL.out).mono ?_
        rintro e w11 ⟨M11, rfl, ho, hb⟩
        have B11 := Lib.hid (base_step B10.out hb)
        have S11 := Lib.hid (S10.out.step hb)
        have P11 := Lib.hid ho
        clear hb ho
        go_wp2_with fail
        refine (eqStrs ss ss _ _ w11 w11.heap.size S11.out.reads P11.out.reads).mono ?_
        rw [same_self]
        rintro e w12 ⟨rfl, m12, rfl⟩
        go_wp2_with fail
        go_ret
        exact ⟨rfl, below_drewN B11.out _⟩
end Go.Proofs.Yticpmakpajnilaa.HoldsLaw
