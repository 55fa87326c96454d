
/- The law of ColumnsOf: what the program answers is what the model answers, in memory of its own, and the argument stays as it was.
   Conditions: the argument is read as XStrs' text says. -/
import Derived.Test.YticpmakpajnilaaColsOf
import Derived.Test.YticpmakpajnilaaMarkStrs
import Derived.Test.YticpmakpajnilaaTakes
import Derived.Test.YticpmakpajnilaaEqual
import Derived.Deep.RegionWith
namespace Go.Proofs.Yticpmakpajnilaa.ColsLaw
open Go.RowKit Mem Copy Rel Strs Words WordMath ColMath ColsOf MarkT MarkRow MarkStrs

/-- What lies below block N stays. -/
structure Old (N : Nat) (W : World) (v : Value) (xs : List Int) : Prop where
  ints : Ints W N v xs
  le : N ≤ W.heap.size
theorem Old.step {N : Nat} {W W' : World} {v : Value} {xs : List Int} (h : Old N W v xs) (hb : Below W.heap.size W W') : Old N W' v xs := ⟨h.ints.below hb h.le, Nat.le_trans h.le hb.size⟩
theorem Old.drewN {N : Nat} {W : World} {v : Value} {xs : List Int} (h : Old N W v xs) (m : Nat) : Old N (W.drewN m) v xs := ⟨h.ints, h.le⟩
theorem Old.grown {N : Nat} {W W' : World} {v : Value} {xs : List Int} {row : Option Nat} (h : Old N W v xs) (hg : W.grownBy W' row) (hr : ∀ k, row = some k → N ≤ k) : Old N W' v xs := ⟨sl_grown h.ints hg hr, Nat.le_trans h.le hg.size⟩

structure OwnT (N : Nat) (W : World) (ss : List ByteArray) : Prop where
  row : W.rowIs N 9 ss.length (fun i => .string (ss.getD i ByteArray.empty))
  lt : N < W.heap.size
  sz : ∀ i, i < ss.length → (ss.getD i ByteArray.empty).size ≤ maxLen
  short : ss.length ≤ 1048576
theorem OwnT.step {N : Nat} {W W' : World} {ss : List ByteArray} (h : OwnT N W ss) (hb : Below W.heap.size W W') : OwnT N W' ss := ⟨rowIs_below h.row hb h.lt, Nat.lt_of_lt_of_le h.lt hb.size, h.sz, h.short⟩
theorem OwnT.drewN {N : Nat} {W : World} {ss : List ByteArray} (h : OwnT N W ss) (m : Nat) : OwnT N (W.drewN m) ss := ⟨h.row, h.lt, h.sz, h.short⟩
theorem OwnT.reads {N : Nat} {W : World} {ss : List ByteArray} (h : OwnT N W ss) : StrsAt W W.heap.size (.slice (some ⟨N, 0, none⟩) ss.length ss.length) ss :=
  ⟨Sl.of_row h.row _ h.lt (by have := h.short; unfold maxLen; omega), h.sz⟩

theorem copyT (va : Value) (ss : List ByteArray) (W : World) (B : Nat) (ha : StrsAt W B va ss) (hB : B ≤ W.heap.size) (hs : ss.length ≤ 1048576) :
    Calls Try.prog 30 #[va] W fun e w' => ∃ M, M = W.heap.size ∧ e = .returned (.slice (some ⟨M, 0, none⟩) ss.length ss.length) ∧ OwnT M w' ss ∧ Below W.heap.size W w' :=
  (copyStrs ss va W B ha hB hs).mono fun _ _ ⟨he, hr, hb, hz⟩ => ⟨_, rfl, he, ⟨hr, by omega, ha.2, hs⟩, hb⟩

theorem colsL_short (ss : List ByteArray) : (colsL ss).length ≤ 40 := by
  unfold colsL
  by_cases h : wordsB ss = true ∧ 1 ≤ ss.length ∧ ss.length ≤ 3
  · rw [if_pos h, cols_length]; exact width_le ss h.1
  · rw [if_neg h]; exact Nat.zero_le _

theorem fresh_old {base : Nat} {W : World} {v : Value} {xs : List Int} (h : Fresh base W v xs) (hm : xs.length ≤ 40) : Old W.heap.size W v xs :=
  ⟨Takes.ints_of_owns h (by unfold maxLen; omega), Nat.le_refl _⟩
theorem fresh_row {base : Nat} {W : World} {v : Value} {xs : List Int} (h : Fresh base W v xs) : Row W base 2 v xs.length (fun i => .int .i64 (xs.getD i 0)) := by
  have h' : W.ownsRow base 2 1 v (xs.map (Value.int .i64)).length (xs.map (Value.int .i64)) := by rw [List.length_map]; exact h
  have := Row.of_owns h' (fun i => .int .i64 (xs.getD i 0)) (fun i hi => by rw [List.length_map] at hi; simp [List.getD, hi])
  rwa [List.length_map] at this
theorem below_drewN' {B : Nat} {a w : World} (h : Below B a w) (m : Nat) : Below B a (w.drewN m) := below_drewN h m

set_option maxHeartbeats 4000000 in
theorem law (w : World) (va : Value) (ss : List ByteArray) (ha : StrsAt w w.heap.size va ss) :
    Calls Try.prog 8 #[va] w fun e w' => e = .returned (.bool true) ∧ Below w.heap.size w w' := by
  have HSW := Lib.hid (fun W (h : Below w.heap.size w W) => ha.below h (Nat.le_refl _))
  clear ha
  obtain ⟨y, hy⟩ : ∃ y, y = szStrs 1048576 ss := ⟨_, rfl⟩
  have HY := Lib.hid hy
  go_enter Try.func8, Try.ntmps8
  go_wp2_with fail
  refine (szStrings ss va 1048576 _ w.heap.size (HSW.out _ (Below.refl _ _)) (by omega) (by omega)).mono ?_
  rintro e w' ⟨rfl, rfl⟩
  rw [← hy]
  clear hy
  by_cases hneg : y < 0
  · go_wp2_with fail
    go_ret
    exact ⟨rfl, Below.refl _ _⟩
  · have SL := Lib.hid (show ss.length ≤ 1048576 by have := szStrs_len (left := 1048576) (ss := ss) (by rw [← HY.out]; omega); omega)
    obtain ⟨c, hc⟩ : ∃ c, c = colsC ss := ⟨_, rfl⟩
    obtain ⟨L, hL⟩ : ∃ L, L = colsL ss := ⟨_, rfl⟩
    have HLL := Lib.hid (show L.length ≤ 40 by rw [hL]; exact colsL_short ss)
    have hcc : (c != c) = false := by simp
    obtain ⟨q, hq⟩ : ∃ q : Nat, q = 1 + L.length := ⟨_, rfl⟩
    have HQ := Lib.hid (show q ≤ 41 by have := HLL.out; omega)
    have hqq : ((q : Int) != (q : Int)) = false := by simp
    obtain ⟨p, hp⟩ : ∃ p : Nat, p = 1 + ss.length := ⟨_, rfl⟩
    have hp0 : p ≤ 1048577 := by have := SL.out; omega
    have hq0 : q ≤ 41 := HQ.out
    have HSO := Lib.hid (fun W v (h : StrsAt W W.heap.size v ss) => specColsOf ss v W W.heap.size h (Nat.le_refl _))
    have HIO := Lib.hid (fun W v (h : StrsAt W W.heap.size v ss) => implColsOf ss v W W.heap.size h (Nat.le_refl _))
    have HMS := Lib.hid (fun W v f lo (h : Row W lo 9 v ss.length f) => markStrs v ss.length f 1 lo W h SL.out (by omega) (by omega))
    have HMI := Lib.hid (fun W v f lo (h : Row W lo 2 v L.length f) => markInts v L.length f 1 lo W h (by have := HLL.out; omega) (by omega))
    have HHI := Lib.hid (fun W v (h : Sl W W.heap.size v L.length (fun i => .int .i64 ((1 + i : Nat) : Int))) => heldInts v L.length 1 W.heap.size W h (by have := HLL.out; omega) (by omega))
    rw [← hc, ← hL] at HSO HIO
    rw [← hp] at HMS
    rw [← hq] at HMI HHI
    have HLM := Lib.hid (show L.length ≤ maxLen by have := HLL.out; unfold maxLen; omega)
    clear hc hL hp hq
    go_wp2_with fail
    refine (copyT va ss w w.heap.size (HSW.out _ (Below.refl _ _)) (Nat.le_refl _) SL.out).mono ?_
    rintro e w1 ⟨M1, -, rfl, ho, hb⟩
    have B1 := Lib.hid hb
    have S1 := Lib.hid ho
    clear ho hb
    go_wp2_with fail
    refine (HSO.out w1 _ S1.out.reads).mono ?_
    rintro e w2 ⟨vw, rfl, hf, hb⟩
    have B2 := Lib.hid (base_step B1.out hb)
    obtain ⟨N, hN⟩ : ∃ N, N = w2.heap.size := ⟨_, rfl⟩
    have W2 := Lib.hid (show Old N w2 vw L by rw [hN]; exact fresh_old hf HLL.out)
    clear hf hb S1
    go_wp2_with fail
    refine (copyT va ss w2 w.heap.size (HSW.out _ B2.out) B2.out.size SL.out).mono ?_
    rintro e w3 ⟨M3, hM3, rfl, ho, hb⟩
    have B3 := Lib.hid (base_step B2.out hb)
    have S3 := Lib.hid ho
    have W3 := Lib.hid (W2.out.step hb)
    have HNM := Lib.hid (show N ≤ M3 by omega)
    have HwM := Lib.hid (show w.heap.size ≤ M3 by have := B2.out.size; omega)
    clear ho hb hN hM3
    go_wp2_with fail
    refine (HIO.out w3 _ S3.out.reads).mono ?_
    rintro e w4 ⟨vg, rfl, hf, hb⟩
    have B4 := Lib.hid (base_step B3.out hb)
    have S4 := Lib.hid (S3.out.step hb)
    have W4 := Lib.hid (W3.out.step hb)
    have G4 := Lib.hid (fresh_row hf)
    have HGB := Lib.hid (show ∀ k, vg.ownBlock = some k → M3 < k by
      intro k hk; have := (World.ownsRow.lt hf k hk).1; have := S3.out.lt; omega)
    have HlM := Lib.hid (show M3 < w3.heap.size from S3.out.lt)
    obtain ⟨lo, hlo⟩ : ∃ lo, lo = w3.heap.size := ⟨_, rfl⟩
    rw [← hlo] at G4 HlM
    clear hf hb hlo
    go_wp2_with fail
    refine (Equal.eqInts L L vg vw w4 w4.heap.size (G4.out.reads HLM.out) (W4.out.ints.mono W4.out.le)).mono ?_
    rw [same_self]
    rintro e w5 ⟨rfl, m5, rfl⟩
    have B5 := Lib.hid (below_drewN B4.out m5)
    have S5 := Lib.hid (S4.out.drewN m5)
    have W5 := Lib.hid (W4.out.drewN m5)
    have G5 := Lib.hid (G4.out.drewN m5)
    clear B1 B2 B3 B4 S3 S4 W2 W3 W4 G4
    go_wp2_with fail
    refine (copyT va ss _ w.heap.size (HSW.out _ B5.out) B5.out.size SL.out).mono ?_
    rintro e w6 ⟨M6, -, rfl, ho, hb⟩
    have B6 := Lib.hid (base_step B5.out hb)
    have S6 := Lib.hid (S5.out.step hb)
    have W6 := Lib.hid (W5.out.step hb)
    have G6 := Lib.hid (G5.out.below hb)
    have T6 := Lib.hid ho
    clear ho hb B5 S5 W5 G5
    go_wp2_with fail
    refine (eqStrs ss ss _ _ w6 w6.heap.size S6.out.reads T6.out.reads).mono ?_
    rw [same_self]
    rintro e w7 ⟨rfl, m7, rfl⟩
    have B7 := Lib.hid (below_drewN B6.out m7)
    have S7 := Lib.hid (S6.out.drewN m7)
    have W7 := Lib.hid (W6.out.drewN m7)
    have G7 := Lib.hid (G6.out.drewN m7)
    clear B6 S6 W6 G6 T6
    go_wp2_with fail
    refine (HMS.out _ _ _ M3 (Row.of_row S7.out.row)).mono ?_
    rintro e w8 ⟨rfl, -, hg⟩
    have B8 := Lib.hid (below_grown B7.out hg B7.out.size (fun k hk => by have hk' : some M3 = some k := hk; cases hk'; exact HwM.out))
    have W8 := Lib.hid (W7.out.grown hg (fun k hk => by have hk' : some M3 = some k := hk; cases hk'; exact HNM.out))
    have G8 := Lib.hid (G7.out.grown hg (fun k hk => by have hk' : some M3 = some k := hk; cases hk'; exact HlM.out))
    clear hg B7 S7 W7 G7
    go_wp2_with fail
    refine (Equal.eqInts L L vg vw w8 w8.heap.size (G8.out.reads HLM.out) (W8.out.ints.mono W8.out.le)).mono ?_
    rw [same_self]
    rintro e w9 ⟨rfl, m9, rfl⟩
    have B9 := Lib.hid (below_drewN B8.out m9)
    have W9 := Lib.hid (W8.out.drewN m9)
    have G9 := Lib.hid (G8.out.drewN m9)
    clear B8 W8 G8
    go_wp2_with fail
    refine (HMI.out _ _ _ lo G9.out).mono ?_
    rintro e w10 ⟨rfl, hr, hg⟩
    have B10 := Lib.hid (below_grown B9.out hg B9.out.size (fun k hk => by have := HGB.out k hk; have := HwM.out; omega))
    have W10 := Lib.hid (W9.out.grown hg (fun k hk => by have := HGB.out k hk; have := HNM.out; omega))
    have G10 := Lib.hid hr
    clear hg hr B9 W9 G9
    go_wp2_with fail
    refine (HHI.out _ _ (G10.out.reads HLM.out)).mono ?_
    rintro e w11 ⟨rfl, rfl⟩
    go_wp2_with fail
    refine (copyT va ss _ w.heap.size (HSW.out _ B10.out) B10.out.size SL.out).mono ?_
    rintro e w12 ⟨M12, -, rfl, ho, hb⟩
    have B12 := Lib.hid (base_step B10.out hb)
    have W12 := Lib.hid (W10.out.step hb)
    have G12 := Lib.hid (G10.out.below hb)
    have S12 := Lib.hid ho
    clear hb ho B10 W10 G10
    go_wp2_with fail
    refine (HIO.out w12 _ S12.out.reads).mono ?_
    rintro e w13 ⟨vh, rfl, hf, hb⟩
    have B13 := Lib.hid (base_step B12.out hb)
    have W13 := Lib.hid (W12.out.step hb)
    have G13 := Lib.hid (G12.out.below hb)
    have H13 := Lib.hid (fresh_old hf HLL.out)
    clear hf hb B12 W12 G12 S12
    go_wp2_with fail
    refine (Equal.eqInts L L vh vw w13 w13.heap.size H13.out.ints (W13.out.ints.mono W13.out.le)).mono ?_
    rw [same_self]
    rintro e w14 ⟨rfl, m14, rfl⟩
    have B14 := Lib.hid (below_drewN B13.out m14)
    have G14 := Lib.hid (G13.out.drewN m14)
    clear B13 W13 G13 H13
    go_wp2_with fail
    refine (HHI.out _ _ (G14.out.reads HLM.out)).mono ?_
    rintro e w15 ⟨rfl, rfl⟩
    go_wp2_with fail
    go_ret
    exact ⟨rfl, B14.out⟩
end Go.Proofs.Yticpmakpajnilaa.ColsLaw
