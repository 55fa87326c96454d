
/- The law of WordsOf: what the program answers is what the model answers, in memory of its own, and the argument stays as it was.
   Conditions: the argument is read as XMem's text says. -/
import Derived.Test.YticpmakpajnilaaWordsOf
import Derived.Test.YticpmakpajnilaaMarkStrs
import Derived.Test.YticpmakpajnilaaEqual
import Derived.Deep.RegionWith
namespace Go.Proofs.Yticpmakpajnilaa.WordsLaw
set_option linter.unusedVariables false
open Go.RowKit Mem Copy Rel Strs Words ColMath Columns TupMath MarkT MarkRow MarkStrs SpecWords WordsOf

/-- What lies below block N stays. -/
structure OldS (N : Nat) (W : World) (v : Value) (ss : List ByteArray) : Prop where
  strs : StrsAt W N v ss
  le : N ≤ W.heap.size
theorem OldS.step {N : Nat} {W W' : World} {v : Value} {ss : List ByteArray} (h : OldS N W v ss) (hb : Below W.heap.size W W') : OldS N W' v ss := ⟨h.strs.below hb h.le, Nat.le_trans h.le hb.size⟩
theorem OldS.drewN {N : Nat} {W : World} {v : Value} {ss : List ByteArray} (h : OldS N W v ss) (m : Nat) : OldS N (W.drewN m) v ss := ⟨h.strs, h.le⟩
theorem OldS.grown {N : Nat} {W W' : World} {v : Value} {ss : List ByteArray} {row : Option Nat} (h : OldS N W v ss) (hg : W.grownBy W' row) (hr : ∀ k, row = some k → N ≤ k) : OldS N W' v ss := ⟨⟨sl_grown h.strs.1 hg hr, h.strs.2⟩, Nat.le_trans h.le hg.size⟩

structure OwnI (N : Nat) (W : World) (xs : List Int) : Prop where
  row : W.rowIs N 2 xs.length (fun i => .int .i64 (xs.getD i 0))
  lt : N < W.heap.size
  short : xs.length ≤ 1048576
theorem OwnI.step {N : Nat} {W W' : World} {xs : List Int} (h : OwnI N W xs) (hb : Below W.heap.size W W') : OwnI N W' xs := ⟨rowIs_below h.row hb h.lt, Nat.lt_of_lt_of_le h.lt hb.size, h.short⟩
theorem OwnI.drewN {N : Nat} {W : World} {xs : List Int} (h : OwnI N W xs) (m : Nat) : OwnI N (W.drewN m) xs := ⟨h.row, h.lt, h.short⟩
theorem OwnI.reads {N : Nat} {W : World} {xs : List Int} (h : OwnI N W xs) : Ints W W.heap.size (.slice (some ⟨N, 0, none⟩) xs.length xs.length) xs :=
  Sl.of_row h.row _ h.lt (by have := h.short; unfold maxLen; omega)

theorem copyI (va : Value) (xs : List Int) (W : World) (B : Nat) (ha : Ints W B va xs) (hB : B ≤ W.heap.size) (hs : xs.length ≤ 1048576) :
    Calls Try.prog 40 #[va] W fun e w' => ∃ M, M = W.heap.size ∧ e = .returned (.slice (some ⟨M, 0, none⟩) xs.length xs.length) ∧ OwnI M w' xs ∧ Below W.heap.size W w' :=
  (copyInts xs va W B ha hB hs).mono fun _ _ ⟨he, hr, hb, hz⟩ => ⟨_, rfl, he, ⟨hr, by omega, hs⟩, hb⟩

theorem wordsL_len (t : Int) (cs : List Int) : (wordsL t cs).length ≤ 3 := by
  unfold wordsL
  by_cases h : inOk t cs = true ∧ rightB t.toNat cs = true
  · rw [if_pos h]
    have := h.1
    unfold inOk inB at this
    simp at this
    rw [List.length_map, List.length_range]; omega
  · rw [if_neg h]; exact Nat.zero_le _
theorem wordsL_short (t : Int) (cs : List Int) (i : Nat) : ((wordsL t cs).getD i ByteArray.empty).size ≤ maxLen := by
  unfold wordsL
  by_cases h : inOk t cs = true ∧ rightB t.toNat cs = true
  · rw [if_pos h]
    have h1 := h.1
    unfold inOk at h1
    simp at h1
    by_cases hi : i < t.toNat
    · simp only [List.getD, List.getElem?_map, List.getElem?_range hi, Option.map_some, Option.getD_some, strOfNums_size]
      have := wd_len cs i
      unfold maxLen; omega
    · simp [List.getD, hi]
  · rw [if_neg h]; simp [List.getD]

theorem freshS_old {base : Nat} {W : World} {v : Value} {ss : List ByteArray} (h : FreshS base W v ss) (h3 : ss.length ≤ 3) (hs : ∀ i, (ss.getD i ByteArray.empty).size ≤ maxLen) : OldS W.heap.size W v ss :=
  ⟨⟨Row.reads h (by unfold maxLen; omega), fun i _ => hs i⟩, Nat.le_refl _⟩
theorem FreshS.row {base : Nat} {W : World} {v : Value} {ss : List ByteArray} (h : FreshS base W v ss) : Row W base 9 v ss.length (fun i => .string (ss.getD i ByteArray.empty)) := h
theorem Row.strs {lo : Nat} {W : World} {v : Value} {ss : List ByteArray} (h : Row W lo 9 v ss.length (fun i => .string (ss.getD i ByteArray.empty))) (h3 : ss.length ≤ 3) (hs : ∀ i, (ss.getD i ByteArray.empty).size ≤ maxLen) : StrsAt W W.heap.size v ss :=
  ⟨h.reads (by unfold maxLen; omega), fun i _ => hs i⟩
theorem Row.ge {w : World} {lo : Nat} {t : TypeId} {v : Value} {n : Nat} {f : Nat → Value} (h : Row w lo t v n f) (hn : 0 < n) : ∀ k, v.ownBlock = some k → lo ≤ k := by
  obtain ⟨a, cap, rfl, h⟩ := h
  obtain ⟨g, m, F, rfl, hl, -⟩ := h hn
  intro k hk
  cases hk; exact hl

/-- Marking no texts changes nothing. -/
theorem mark0 (a : Option Addr) (cap : Nat) (k : Nat) (w : World) : Calls Try.prog 34 #[.slice a 0 cap, .int .i64 k] w fun e w' => e = .returned (.int .i64 k) ∧ w = w' := by
  go_enter Try.func34, Try.ntmps34
  go_wp2
  refine wp_loop_rounds 1 ?_
  rw [rounds_succ]
  go_wp2
  go_ret
  exact ⟨rfl, rfl⟩
theorem markS' (v : Value) (n : Nat) (f : Nat → Value) (k : Nat) (lo : Nat) (w : World) (hr : Row w lo 9 v n f) (hn : n ≤ 1048576) (h1 : 1 ≤ k) (hk : k ≤ 1048576) :
    Calls Try.prog 34 #[v, .int .i64 k] w fun e w' => e = .returned (.int .i64 ((k + n : Nat) : Int)) ∧ Row w' lo 9 v n (fun i => .string (markS (k + i))) ∧ ((0 < n ∧ w.grownBy w' v.ownBlock) ∨ w = w') := by
  by_cases h0 : 0 < n
  · exact (markStrs v n f k lo w hr hn h1 hk).mono fun e w' ⟨h1, h2, h3⟩ => ⟨h1, h2, .inl ⟨h0, h3⟩⟩
  · obtain rfl : n = 0 := by omega
    obtain ⟨a, cap, rfl, -⟩ := hr
    exact (mark0 a cap k w).mono fun e w' ⟨h1, h2⟩ => ⟨by rw [h1]; rfl, ⟨a, cap, rfl, fun h => absurd h (Nat.lt_irrefl 0)⟩, .inr h2⟩

set_option maxRecDepth 8000 in
set_option maxHeartbeats 4000000 in
theorem law (w : World) (t : Int) (va : Value) (xs : List Int) (ha : Ints w w.heap.size va xs) :
    Calls Try.prog 10 #[.int .i64 t, va] w fun e w' => e = .returned (.bool true) ∧ Below w.heap.size w w' := by
  have HSW := Lib.hid (fun W (h : Below w.heap.size w W) => ha.below h (Nat.le_refl _))
  obtain ⟨aa, ab, ao, ac, rfl, hma, -, -⟩ := ha
  unfold maxLen at hma
  obtain ⟨n, hn⟩ : ∃ n, n = xs.length := ⟨_, rfl⟩
  rw [← hn] at hma HSW
  rw [← hn]
  have HN := Lib.hid hn
  clear hn
  go_enter Try.func10, Try.ntmps10
  by_cases hbig : 1048576 < n
  · go_wp2_with fail
    go_ret
    exact ⟨rfl, Below.refl _ _⟩
  · have SL := Lib.hid (show xs.length ≤ 1048576 by have := HN.out; omega)
    obtain ⟨c, hc⟩ : ∃ c, c = wordsC t xs := ⟨_, rfl⟩
    obtain ⟨L, hL⟩ : ∃ L, L = wordsL t xs := ⟨_, rfl⟩
    have HLL := Lib.hid (show L.length ≤ 3 by rw [hL]; exact wordsL_len t xs)
    have HLS := Lib.hid (show ∀ i, (L.getD i ByteArray.empty).size ≤ maxLen by rw [hL]; exact wordsL_short t xs)
    have hcc : (c != c) = false := by simp
    obtain ⟨q, hq⟩ : ∃ q : Nat, q = 1 + L.length := ⟨_, rfl⟩
    have hq0 : q ≤ 4 := by have := HLL.out; omega
    have hqq : ((q : Int) != (q : Int)) = false := by simp
    obtain ⟨p, hp⟩ : ∃ p : Nat, p = 1 + xs.length := ⟨_, rfl⟩
    have hp0 : p ≤ 1048577 := by have := SL.out; omega
    have HSO := Lib.hid (fun W v (h : Ints W W.heap.size v xs) => specWordsOf t xs v W W.heap.size h (Nat.le_refl _))
    have HIO := Lib.hid (fun W v (h : Ints W W.heap.size v xs) => implWordsOf t xs v W W.heap.size h (Nat.le_refl _))
    have HMS := Lib.hid (fun W v f lo (h : Row W lo 9 v L.length f) => markS' v L.length f 1 lo W h (by have := HLL.out; omega) (by omega) (by omega))
    have HMI := Lib.hid (fun W v f lo (h : Row W lo 2 v xs.length f) => markInts v xs.length f 1 lo W h SL.out (by omega))
    have HHS := Lib.hid (fun W v (h : Sl W W.heap.size v L.length (fun i => .string (markS (1 + i)))) => heldStrs v L.length 1 W.heap.size W h (Nat.le_refl _) (by have := HLL.out; omega) (by omega) (by omega))
    rw [← hc, ← hL] at HSO HIO
    rw [← hp] at HMI
    rw [← hq] at HMS HHS
    have HLM := Lib.hid (show L.length ≤ maxLen by have := HLL.out; unfold maxLen; omega)
    have HWW := Lib.hid (fun W v base (h : FreshS base W v L) => freshS_old h HLL.out HLS.out)
    clear hc hL hp hq
    go_wp2_with fail
    refine (copyI _ xs w w.heap.size (HSW.out _ (Below.refl _ _)) (Nat.le_refl _) SL.out).mono ?_
    rintro e w1 ⟨M1, -, rfl, ho, hb⟩
    have B1 := Lib.hid hb
    have S1 := Lib.hid ho
    clear ho hb
    go_wp2_with fail
    refine (HSO.out w1 _ S1.out.reads).mono ?_
    rintro e w2 ⟨vw, rfl, hf, hb⟩
    have B2 := Lib.hid (base_step B1.out hb)
    obtain ⟨N, hN⟩ : ∃ N, N = w2.heap.size := ⟨_, rfl⟩
    have W2 := Lib.hid (show OldS N w2 vw L by rw [hN]; exact HWW.out _ _ _ hf)
    clear hf hb S1
    go_wp2_with fail
    refine (copyI _ xs w2 w.heap.size (HSW.out _ B2.out) B2.out.size SL.out).mono ?_
    rintro e w3 ⟨M3, hM3, rfl, ho, hb⟩
    have B3 := Lib.hid (base_step B2.out hb)
    have S3 := Lib.hid ho
    have W3 := Lib.hid (W2.out.step hb)
    have HNM := Lib.hid (show N ≤ M3 by omega)
    have HwM := Lib.hid (show w.heap.size ≤ M3 by have := B2.out.size; omega)
    clear ho hb hN hM3
    go_wp2_with fail
    refine (HIO.out w3 _ S3.out.reads).mono ?_
    rintro e w4 ⟨vg, rfl, hf, hb⟩
    have B4 := Lib.hid (base_step B3.out hb)
    have S4 := Lib.hid (S3.out.step hb)
    have W4 := Lib.hid (W3.out.step hb)
    have G4 := Lib.hid (FreshS.row hf)
    have HGB := Lib.hid (show 0 < L.length → ∀ k, vg.ownBlock = some k → M3 < k by
      intro h0 k hk; have := Row.ge G4.out h0 k hk; have := S3.out.lt; omega)
    have HlM := Lib.hid (show M3 < w3.heap.size from S3.out.lt)
    obtain ⟨lo, hlo⟩ : ∃ lo, lo = w3.heap.size := ⟨_, rfl⟩
    rw [← hlo] at G4 HlM
    clear hf hb hlo
    go_wp2_with fail
    refine (eqStrs L L vg vw w4 w4.heap.size (Row.strs G4.out HLL.out HLS.out) (W4.out.strs.mono W4.out.le)).mono ?_
    rw [same_self]
    rintro e w5 ⟨rfl, m5, rfl⟩
    have B5 := Lib.hid (below_drewN B4.out m5)
    have S5 := Lib.hid (S4.out.drewN m5)
    have W5 := Lib.hid (W4.out.drewN m5)
    have G5 := Lib.hid (G4.out.drewN m5)
    clear B1 B2 B3 B4 S3 S4 W2 W3 W4 G4
    go_wp2_with fail
    refine (copyI _ xs _ w.heap.size (HSW.out _ B5.out) B5.out.size SL.out).mono ?_
    rintro e w6 ⟨M6, -, rfl, ho, hb⟩
    have B6 := Lib.hid (base_step B5.out hb)
    have S6 := Lib.hid (S5.out.step hb)
    have W6 := Lib.hid (W5.out.step hb)
    have G6 := Lib.hid (G5.out.below hb)
    have T6 := Lib.hid ho
    clear ho hb B5 S5 W5 G5
    go_wp2_with fail
    refine (Equal.eqInts xs xs _ _ w6 w6.heap.size S6.out.reads T6.out.reads).mono ?_
    rw [same_self]
    rintro e w7 ⟨rfl, m7, rfl⟩
    have B7 := Lib.hid (below_drewN B6.out m7)
    have S7 := Lib.hid (S6.out.drewN m7)
    have W7 := Lib.hid (W6.out.drewN m7)
    have G7 := Lib.hid (G6.out.drewN m7)
    clear B6 S6 W6 G6 T6
    go_wp2_with fail
    refine (HMI.out _ _ _ M3 (Row.of_row S7.out.row)).mono ?_
    rintro e w8 ⟨rfl, -, hg⟩
    have B8 := Lib.hid (below_grown B7.out hg B7.out.size (fun k hk => by have hk' : some M3 = some k := hk; cases hk'; exact HwM.out))
    have W8 := Lib.hid (W7.out.grown hg (fun k hk => by have hk' : some M3 = some k := hk; cases hk'; exact HNM.out))
    have G8 := Lib.hid (G7.out.grown hg (fun k hk => by have hk' : some M3 = some k := hk; cases hk'; exact HlM.out))
    clear hg B7 S7 W7 G7
    go_wp2_with fail
    refine (eqStrs L L vg vw w8 w8.heap.size (Row.strs G8.out HLL.out HLS.out) (W8.out.strs.mono W8.out.le)).mono ?_
    rw [same_self]
    rintro e w9 ⟨rfl, m9, rfl⟩
    have B9 := Lib.hid (below_drewN B8.out m9)
    have W9 := Lib.hid (W8.out.drewN m9)
    have G9 := Lib.hid (G8.out.drewN m9)
    clear B8 W8 G8
    go_wp2_with fail
    refine (HMS.out _ _ _ lo G9.out).mono ?_
    rintro e w10 ⟨rfl, hr, hg⟩
    have BW10 := Lib.hid (show Below w.heap.size w w10 ∧ OldS N w10 vw L by
      rcases hg with ⟨h0, hg⟩ | rfl
      · exact ⟨below_grown B9.out hg B9.out.size (fun k hk => by have := HGB.out h0 k hk; have := HwM.out; omega), W9.out.grown hg (fun k hk => by have := HGB.out h0 k hk; have := HNM.out; omega)⟩
      · exact ⟨B9.out, W9.out⟩)
    have B10 := Lib.hid BW10.out.1
    have W10 := Lib.hid BW10.out.2
    have G10 := Lib.hid hr
    clear hg hr B9 W9 G9 BW10
    go_wp2_with fail
    refine (HHS.out _ _ (G10.out.reads HLM.out)).mono ?_
    rintro e w11 ⟨rfl, hb⟩
    have B11 := Lib.hid (base_step B10.out hb)
    have W11 := Lib.hid (W10.out.step hb)
    have G11 := Lib.hid (G10.out.below hb)
    clear hb B10 W10 G10
    go_wp2_with fail
    refine (copyI _ xs _ w.heap.size (HSW.out _ B11.out) B11.out.size SL.out).mono ?_
    rintro e w12 ⟨M12, -, rfl, ho, hb⟩
    have B12 := Lib.hid (base_step B11.out hb)
    have W12 := Lib.hid (W11.out.step hb)
    have G12 := Lib.hid (G11.out.below hb)
    have S12 := Lib.hid ho
    clear hb ho B11 W11 G11
    go_wp2_with fail
    refine (HIO.out w12 _ S12.out.reads).mono ?_
    rintro e w13 ⟨vh, rfl, hf, hb⟩
    have B13 := Lib.hid (base_step B12.out hb)
    have W13 := Lib.hid (W12.out.step hb)
    have G13 := Lib.hid (G12.out.below hb)
    have H13 := Lib.hid (HWW.out _ _ _ hf)
    clear hf hb B12 W12 G12 S12
    go_wp2_with fail
    refine (eqStrs L L vh vw w13 w13.heap.size H13.out.strs (W13.out.strs.mono W13.out.le)).mono ?_
    rw [same_self]
    rintro e w14 ⟨rfl, m14, rfl⟩
    have B14 := Lib.hid (below_drewN B13.out m14)
    have G14 := Lib.hid (G13.out.drewN m14)
    clear B13 W13 G13 H13
    go_wp2_with fail
    refine (HHS.out _ _ (G14.out.reads HLM.out)).mono ?_
    rintro e w15 ⟨rfl, hb⟩
    have B15 := Lib.hid (base_step B14.out hb)
    clear hb
    go_wp2_with fail
    go_ret
    exact ⟨rfl, B15.out⟩
end Go.Proofs.Yticpmakpajnilaa.WordsLaw
