
/- The law of FirstUnlike: what the program answers is what the model answers, in memory of its own, and the arguments stay as they were.
   Conditions: the arguments are read as XRel's text says. -/
import Derived.Test.YtjplmmokbkkclaaFM8
import Derived.Test.YtjplmmokbkkclaaFM11
import Derived.Test.YtjplmmokbkkclaaFM25
import Derived.Test.YtjplmmokbkkclaaFM24
import Derived.Deep.RegionWith
namespace Go.Proofs.Ytjplmmokbkkclaa.LawFirstUnlike
set_option linter.unusedVariables false
set_option linter.unusedSimpArgs false
set_option linter.ambiguousOpen false
open Go.RowKit Mem Copy Rel Strs Words Heap MarkT MarkRow MarkRows MarkRel MarkOf MarkStrs SpecWords StrKit

theorem szRowsTo_eq (xss : List (List Int)) : ∀ left : Int, 0 ≤ szRowsTo left xss → szRowsTo left xss + (((xss.map List.length).sum : Nat) : Int) = left := by
  induction xss with
  | nil => intro left h; simp [szRowsTo]
  | cons y r ih =>
    intro left h
    unfold szRowsTo at h ⊢
    by_cases hc : left < (y.length : Int)
    · rw [if_pos hc] at h; omega
    · rw [if_neg hc] at h ⊢
      have := ih _ h
      simp only [List.map_cons, List.sum_cons]
      omega
theorem szRel_eq {left : Int} {r : R} (h : 0 ≤ szRel left r) : szRel left r + ((r.accept.length + r.next.length + sumTo (lenF r.next) r.next.length : Nat) : Int) = left := by
  rw [LawKit.sumTo_take _ _ (Nat.le_refl _), List.take_of_length_le (by rw [List.length_map]; exact Nat.le_refl _)]
  unfold szRel at h ⊢
  by_cases h1 : left < (r.accept.length : Int)
  · rw [if_pos h1] at h; omega
  · rw [if_neg h1] at h ⊢
    unfold szRows at h ⊢
    by_cases h2 : left - r.accept.length < (r.next.length : Int)
    · rw [if_pos h2] at h; omega
    · rw [if_neg h2] at h ⊢
      have := szRowsTo_eq _ _ h
      omega
theorem short_of' {r : R} {left : Int} (hl : left ≤ 1048576) (h : 0 ≤ szRel left r) : Short r := by
  obtain ⟨a, b, c⟩ := szRel_bounds h
  exact ⟨by omega, by omega, fun i hi => by have := c i hi; omega⟩

/-- The arguments' boxes. -/
structure Ar (w : World) (r s : R) (va vn ua un : Value) (W : World) : Prop where
  a : Kept W w.heap.size (.int .i64 r.tapes) (.int .i64 r.start) va vn
  b : Kept W (w.heap.size + 1) (.int .i64 s.tapes) (.int .i64 s.start) ua un
theorem ar_keeps (w : World) (r s : R) (va vn ua un : Value) : Keeps (w.heap.size + 2) (Ar w r s va vn ua un) := fun W W' h hb =>
  ⟨⟨h.a.four.below hb (by omega), Nat.lt_of_lt_of_le h.a.lt hb.size⟩, ⟨h.b.four.below hb (by omega), Nat.lt_of_lt_of_le h.b.lt hb.size⟩⟩
theorem Ar.step {w : World} {r s : R} {va vn ua un : Value} {W W' : World} (h : Ar w r s va vn ua un W) (hb : Below W.heap.size W W') : Ar w r s va vn ua un W' := ⟨h.a.step hb, h.b.step hb⟩
/-- The law's state before anything is marked. -/
structure Ck (w : World) (r s : R) (va vn ua un : Value) (N : Nat) (vw : Value) (L : List ByteArray) (lo : Nat) (vg : Value) (M X M' X' : Nat) (W : World) : Prop where
  st : St w (w.heap.size + 2) (Ar w r s va vn ua un) N vw L lo vg (fun i => .string (L.getD i ByteArray.empty)) W
  c1 : Cp r M X W
  c2 : Cp s M' X' W
  hNM : N ≤ M
  hXM : X < M'
  hXl : X' < lo
theorem Ck.step {w : World} {r s : R} {va vn ua un : Value} {N : Nat} {vw : Value} {L : List ByteArray} {lo : Nat} {vg : Value} {M X M' X' : Nat} {W W' : World} (h : Ck w r s va vn ua un N vw L lo vg M X M' X' W) (hb : Below W.heap.size W W') : Ck w r s va vn ua un N vw L lo vg M X M' X' W' :=
  ⟨h.st.step (ar_keeps w r s va vn ua un) hb, h.c1.step hb, h.c2.step hb, h.hNM, h.hXM, h.hXl⟩
theorem Ck.drew {w : World} {r s : R} {va vn ua un : Value} {N : Nat} {vw : Value} {L : List ByteArray} {lo : Nat} {vg : Value} {M X M' X' : Nat} {W : World} (h : Ck w r s va vn ua un N vw L lo vg M X M' X' W) : Ck w r s va vn ua un N vw L lo vg M X M' X' W.drew := h.step ((Below.refl _ _).drew)

set_option maxRecDepth 100000 in
set_option maxHeartbeats 16000000 in
theorem law (w : World) (v : Value) (r : R) (hr : RelAt w w.heap.size v r) (u : Value) (s : R) (hs : RelAt w w.heap.size u s) (C : Int) (L : List ByteArray)
    (hS : ∀ v u W, RelAt W W.heap.size v r → RelAt W W.heap.size u s → Calls Try.prog 9 #[v, u] W fun e w' => ∃ x, e = .returned (.tuple #[x, .int .i64 C]) ∧ FreshS W.heap.size w' x L ∧ Below W.heap.size W w')
    (hI : ∀ v u W, RelAt W W.heap.size v r → RelAt W W.heap.size u s → Calls Try.prog 11 #[v, u] W fun e w' => ∃ x, e = .returned (.tuple #[x, .int .i64 C]) ∧ FreshS W.heap.size w' x L ∧ Below W.heap.size W w')
    (h3 : L.length ≤ 3) (hls : ∀ i, (L.getD i ByteArray.empty).size ≤ maxLen) :
    Calls Try.prog 3 #[v, u] w fun e w' => e = .returned (.bool true) ∧ Below w.heap.size w w' := by
  have HRW := Lib.hid (fun W (h : Below w.heap.size w W) => hr.below h (Nat.le_refl _))
  have HSW := Lib.hid (fun W (h : Below w.heap.size w W) => hs.below h (Nat.le_refl _))
  obtain ⟨va, vn, rfl, -, -⟩ := hr
  obtain ⟨ua, un, rfl, -, -⟩ := hs
  have B0 := Lib.hid (base_box (base_box (Below.refl _ w) (.cells #[.int .i64 r.tapes, .int .i64 r.start, va, vn] 25)) (.cells #[.int .i64 s.tapes, .int .i64 s.start, ua, un] 25))
  have A0 := Lib.hid (show Ar w r s va vn ua un ((w.alloc (.cells #[.int .i64 r.tapes, .int .i64 r.start, va, vn] 25)).alloc (.cells #[.int .i64 s.tapes, .int .i64 s.start, ua, un] 25)) from ⟨(Kept.new w (.int .i64 r.tapes) (.int .i64 r.start) va vn 25).box (.cells #[.int .i64 s.tapes, .int .i64 s.start, ua, un] 25), by
    have h1 := Kept.new (w.alloc (.cells #[.int .i64 r.tapes, .int .i64 r.start, va, vn] 25)) (.int .i64 s.tapes) (.int .i64 s.start) ua un 25
    rwa [size_alloc'] at h1⟩)
  have HSO := Lib.hid hS
  have HIO := Lib.hid hI
  have HLL := Lib.hid h3
  have HLS := Lib.hid hls
  clear hS hI h3 hls
  go_enter Try.func3, Try.ntmps3
  go_wp2_with fail
  refine (szRelation _ r 1048576 _ w.heap.size (HRW.out _ B0.out) B0.out.size (by omega) (by omega)).mono ?_
  rintro e w1 ⟨rfl, hb⟩
  have B1 := Lib.hid (base_step B0.out hb)
  have A1 := Lib.hid (A0.out.step hb)
  clear hb
  obtain ⟨⟨k0, k1, k2, k3⟩, -⟩ := A1.out.a
  obtain ⟨⟨l0, l1, l2, l3⟩, -⟩ := A1.out.b
  obtain ⟨z, hz⟩ : ∃ z, z = szRel 1048576 r := ⟨_, rfl⟩
  rw [← hz]
  have HZ := Lib.hid hz
  clear hz
  by_cases hneg : z < 0
  · go_wp2_with fail
    go_ret
    exact ⟨rfl, B1.out⟩
  · have SH := Lib.hid (short_of (r := r) (by rw [← HZ.out]; omega))
    have SS := Lib.hid (szRel_eq (r := r) (left := 1048576) (by rw [← HZ.out]; omega))
    rw [← HZ.out] at SS
    have HL := Lib.hid (show z ≤ 1048576 by have := SS.out; omega)
    go_wp2_with fail
    refine (szRelation _ s z _ w.heap.size (HSW.out _ B1.out) B1.out.size (by omega) HL.out).mono ?_
    rintro e w2 ⟨rfl, hb⟩
    have B2 := Lib.hid (base_step B1.out hb)
    have A2 := Lib.hid (A1.out.step hb)
    clear hb k0 k1 k2 k3 l0 l1 l2 l3
    obtain ⟨⟨k0, k1, k2, k3⟩, -⟩ := A2.out.a
    obtain ⟨⟨l0, l1, l2, l3⟩, -⟩ := A2.out.b
    obtain ⟨y, hy⟩ : ∃ y, y = szRel z s := ⟨_, rfl⟩
    rw [← hy]
    have HY := Lib.hid hy
    clear hy
    by_cases hneg2 : y < 0
    · go_wp2_with fail
      go_ret
      exact ⟨rfl, B2.out⟩
    · have SH2 := Lib.hid (short_of' (r := s) HL.out (by rw [← HY.out]; omega))
      have SS2 := Lib.hid (szRel_eq (r := s) (left := z) (by rw [← HY.out]; omega))
      rw [← HY.out] at SS2
      have hcc : (C != C) = false := by simp
      obtain ⟨q, hq⟩ : ∃ q : Nat, q = 1 + L.length := ⟨_, rfl⟩
      have hq0 : q ≤ 4 := by have := HLL.out; omega
      have hqq : ((q : Int) != (q : Int)) = false := by simp
      have HMS := Lib.hid (fun W v f lo (h : Row W lo 9 v L.length f) => markS' v L.length f 1 lo W h (by have := HLL.out; omega) (by omega) (by omega))
      have HHS := Lib.hid (fun W v (h : Sl W W.heap.size v L.length (fun i => .string (markS (1 + i)))) => heldStrs v L.length 1 W.heap.size W h (Nat.le_refl _) (by have := HLL.out; omega) (by omega) (by omega))
      rw [← hq] at HMS HHS
      have HLM := Lib.hid (show L.length ≤ maxLen by have := HLL.out; unfold maxLen; omega)
      have HQ := Lib.hid hq
      clear hq
      go_wp2_with fail
      go_upto_region 8 with fail
      go_cut [6, 7] (fun v6 v7 wx => v7 = .int .i64 C ∧ Below w.heap.size w wx ∧ Ar w r s va vn ua un wx ∧ OldS wx.heap.size wx v6 L)
      case first =>
        have A2d := Lib.hid (show Ar w r s va vn ua un w2.drew from A2.out.step ((Below.refl _ _).drew))
        go_region_with (first
          | (go_at_call_of 10 va; refine (copyOwn _ r _ w.heap.size (HRW.out _ B2.out.drew) B2.out.drew.size SH.out).mono ?_; rintro e w3 ⟨M3, rfl, ho, hb⟩; have B3 := Lib.hid (base_step B2.out.drew hb); have A3 := Lib.hid (A2d.out.step hb); have O3 := Lib.hid ho; obtain ⟨⟨p0, p1, p2, p3⟩, -⟩ := A3.out.b; clear hb ho)
          | (go_at_call_of 10 ua; refine (copyOwn _ s w3 w.heap.size (HSW.out _ B3.out) B3.out.size SH2.out).mono ?_; rintro e w4 ⟨M4, rfl, ho, hb⟩; have B4 := Lib.hid (base_step B3.out hb); have A4 := Lib.hid (A3.out.step hb); have O4 := Lib.hid (O3.out.step hb); have Q4 := Lib.hid ho; clear hb ho)
          | (go_at_call 9; refine (HSO.out _ _ w4 O4.out.reads Q4.out.reads).mono ?_; rintro e w5 ⟨vw, rfl, hf, hb⟩; have B5 := Lib.hid (base_step B4.out hb); have A5 := Lib.hid (A4.out.step hb); have W5 := Lib.hid (freshS_old hf HLL.out HLS.out); clear hb hf p0 p1 p2 p3))
        all_goals
          go_wp2_with fail
          go_meet
          exact ⟨rfl, B5.out, A5.out, W5.out⟩
      case rest =>
        obtain ⟨rfl, hB5, hA5, hW5⟩ := hcut
        have B5 := Lib.hid hB5
        have A5 := Lib.hid hA5
        have W5 := Lib.hid hW5
        generalize wc = w5 at hB5 hA5 hW5 B5 A5 W5 ⊢
        generalize u6 = vw at hW5 W5 ⊢
        have HwN := Lib.hid (show w.heap.size + 2 ≤ w5.heap.size from A5.out.b.lt)
        clear hB5 hA5 hW5 B2 A2 B1 A1 B0 A0 HSO k0 k1 k2 k3 l0 l1 l2 l3
        obtain ⟨⟨k0, k1, k2, k3⟩, -⟩ := A5.out.a
        obtain ⟨⟨l0, l1, l2, l3⟩, -⟩ := A5.out.b
        go_wp2_with fail
        refine (copyOwn' _ r w5 w.heap.size (HRW.out _ B5.out) B5.out.size SH.out).mono ?_
        rintro e w6 ⟨M, rfl, ho, hb, hM⟩
        have HNM := Lib.hid hM
        have B6 := Lib.hid (base_step B5.out hb)
        have A6 := Lib.hid (A5.out.step hb)
        have W6 := Lib.hid (W5.out.low hb)
        have O6 := Lib.hid ho
        have HM6 := Lib.hid (show w6.heap.size < (w6.alloc (.cells #[.int .i64 r.tapes, .int .i64 r.start, .slice (some ⟨M, 0, none⟩) r.accept.length r.accept.length, .slice (some ⟨M + 1, 0, none⟩) r.next.length r.next.length] 30)).heap.size by rw [size_alloc']; exact Nat.lt_succ_self _)
        have B7 := Lib.hid (base_box B6.out (.cells #[.int .i64 r.tapes, .int .i64 r.start, .slice (some ⟨M, 0, none⟩) r.accept.length r.accept.length, .slice (some ⟨M + 1, 0, none⟩) r.next.length r.next.length] 30))
        have A7 := Lib.hid (A6.out.step ((Below.refl _ _).alloc (Nat.le_refl _) (.cells #[.int .i64 r.tapes, .int .i64 r.start, .slice (some ⟨M, 0, none⟩) r.accept.length r.accept.length, .slice (some ⟨M + 1, 0, none⟩) r.next.length r.next.length] 30)))
        have W7 := Lib.hid (W6.out.low ((Below.refl _ _).alloc W6.out.le (.cells #[.int .i64 r.tapes, .int .i64 r.start, .slice (some ⟨M, 0, none⟩) r.accept.length r.accept.length, .slice (some ⟨M + 1, 0, none⟩) r.next.length r.next.length] 30)))
        have C7 := Lib.hid (Cp.new O6.out 30)
        have hlt6 : w.heap.size < w6.heap.size := A6.out.a.lt
        have hlt6' : w.heap.size + 1 < w6.heap.size := A6.out.b.lt
        clear ho hb hM k0 k1 k2 k3 l0 l1 l2 l3 B5 A5 W5
        obtain ⟨⟨l0, l1, l2, l3⟩, -⟩ := A6.out.b
        go_wp2_with fail
        refine (copyOwn' _ s _ w.heap.size (HSW.out _ B7.out) B7.out.size SH2.out).mono ?_
        rintro e w8 ⟨M', rfl, ho, hb, hM⟩
        have HXM := Lib.hid (Nat.lt_of_lt_of_le HM6.out hM)
        have B8 := Lib.hid (base_step B7.out hb)
        have A8 := Lib.hid (A7.out.step hb)
        have W8 := Lib.hid (W7.out.low (hb.mono W7.out.le))
        have C8 := Lib.hid (C7.out.step hb)
        have O8 := Lib.hid ho
        have B9 := Lib.hid (base_box B8.out (.cells #[.int .i64 s.tapes, .int .i64 s.start, .slice (some ⟨M', 0, none⟩) s.accept.length s.accept.length, .slice (some ⟨M' + 1, 0, none⟩) s.next.length s.next.length] 30))
        have A9 := Lib.hid (A8.out.step ((Below.refl _ _).alloc (Nat.le_refl _) (.cells #[.int .i64 s.tapes, .int .i64 s.start, .slice (some ⟨M', 0, none⟩) s.accept.length s.accept.length, .slice (some ⟨M' + 1, 0, none⟩) s.next.length s.next.length] 30)))
        have W9 := Lib.hid (W8.out.low ((Below.refl _ _).alloc W8.out.le (.cells #[.int .i64 s.tapes, .int .i64 s.start, .slice (some ⟨M', 0, none⟩) s.accept.length s.accept.length, .slice (some ⟨M' + 1, 0, none⟩) s.next.length s.next.length] 30)))
        have C9 := Lib.hid (C8.out.step ((Below.refl _ _).alloc (Nat.le_refl _) (.cells #[.int .i64 s.tapes, .int .i64 s.start, .slice (some ⟨M', 0, none⟩) s.accept.length s.accept.length, .slice (some ⟨M' + 1, 0, none⟩) s.next.length s.next.length] 30)))
        have D9 := Lib.hid (Cp.new O8.out 30)
        have HI9 := Lib.hid (HIO.out _ _ _ C9.out.own.reads D9.out.own.reads)
        clear ho hb hM l0 l1 l2 l3 hlt6 hlt6' B6 A6 W6 B7 A7 W7 C7 HM6
        obtain ⟨⟨q0, q1, q2, q3⟩, hlq⟩ := C8.out.xb
        go_wp2_with fail
        refine HI9.out.mono ?_
        rintro e w10 ⟨vg, rfl, hf, hb⟩
        obtain ⟨X, hX⟩ : ∃ X, X = w6.heap.size := ⟨_, rfl⟩
        rw [← hX] at C9 HXM
        have HX := Lib.hid hX
        have hs : (w8.alloc (.cells #[.int .i64 s.tapes, .int .i64 s.start, .slice (some ⟨M', 0, none⟩) s.accept.length s.accept.length, .slice (some ⟨M' + 1, 0, none⟩) s.next.length s.next.length] 30)).heap.size = w8.heap.size + 1 := size_alloc' _ _
        obtain ⟨N, hN⟩ : ∃ N, N = w5.heap.size := ⟨_, rfl⟩
        rw [← hN] at W9 HwN HNM
        obtain ⟨X', hX'⟩ : ∃ X, X = w8.heap.size := ⟨_, rfl⟩
        obtain ⟨lo, hlo⟩ : ∃ lo, lo = X' + 1 := ⟨_, rfl⟩
        have CK10 := Lib.hid (show Ck w r s va vn ua un N vw L lo vg M X M' X' w10 from
          ⟨⟨base_step B9.out hb, A9.out.step hb, W9.out.low (hb.mono W9.out.le), by rw [hlo, hX', ← hs]; exact FreshS.row hf, HwN.out, by omega, by rw [hlo, hX']; have := W8.out.le; omega, by rw [hlo, hX', ← hs]; exact hb.size⟩, C9.out.step hb, by rw [hX']; exact D9.out.step hb, HNM.out, HXM.out, by omega⟩)
        have HX' := Lib.hid hX'
        clear hb hf hs hN hlo hX' hX HI9 B8 A8 W8 C8 O8 B9 A9 W9 C9 D9 q0 q1 q2 q3 hlq HwN HNM HXM
        go_wp2_with fail
        rw [← HX'.out, ← HX.out]
        clear HX' HX
        refine (eqStrs L L vg vw w10 w10.heap.size (Row.strs CK10.out.st.new HLL.out HLS.out) (CK10.out.st.old.strs.mono CK10.out.st.old.le)).mono ?_
        rw [same_self]
        rintro e w9 ⟨rfl, m9, rfl⟩
        have CK9 := Lib.hid (CK10.out.step (below_drewN (Below.refl _ _) m9))
        generalize w10.drewN m9 = w9 at CK9 ⊢
        clear CK10
        obtain ⟨⟨q0, q1, q2, q3⟩, hlq⟩ := CK9.out.c1.xb
        obtain ⟨⟨k0, k1, k2, k3⟩, hlk⟩ := CK9.out.st.ext.a
        go_upto_region 14 with fail
        go_cut [58] (fun v58 wx => v58 = .bool false ∧ Ck w r s va vn ua un N vw L lo vg M X M' X' wx)
        case first =>
          go_region_with (first
            | (go_at_call 10; refine (copyOwn _ r _ w.heap.size (HRW.out _ CK9.out.drew.st.base) CK9.out.drew.st.base.size SH.out).mono ?_; rintro e w11 ⟨M11, rfl, ho, hb⟩; have CK11 := Lib.hid (CK9.out.drew.step hb); have O11 := Lib.hid ho; obtain ⟨⟨p0, p1, p2, p3⟩, -⟩ := CK11.out.c1.xb; clear hb ho)
            | (go_at_call 13; refine (eqRelation _ _ r r w11 w11.heap.size CK11.out.c1.own.reads O11.out.reads (Nat.le_refl _)).mono ?_; rw [sameRel_self]; rintro e w12 ⟨rfl, hb⟩; have CK12 := Lib.hid (CK11.out.step hb); clear hb p0 p1 p2 p3))
          all_goals
            go_wp2_with fail
            go_meet
            exact ⟨rfl, CK12.out⟩
        case rest =>
          obtain ⟨rfl, hck⟩ := hcut
          have CK20 := Lib.hid hck
          generalize wc = w20 at hck CK20 ⊢
          clear CK9 hck q0 q1 q2 q3 hlq k0 k1 k2 k3 hlk
          obtain ⟨⟨q0, q1, q2, q3⟩, hlq⟩ := CK20.out.c2.xb
          obtain ⟨⟨k0, k1, k2, k3⟩, hlk⟩ := CK20.out.st.ext.b
          go_upto_region 16 with fail
          go_cut [63] (fun v63 wx => v63 = .bool false ∧ Ck w r s va vn ua un N vw L lo vg M X M' X' wx)
          case first =>
            go_region_with (first
              | (go_at_call 10; refine (copyOwn _ s _ w.heap.size (HSW.out _ CK20.out.drew.st.base) CK20.out.drew.st.base.size SH2.out).mono ?_; rintro e w11 ⟨M11, rfl, ho, hb⟩; have CK11 := Lib.hid (CK20.out.drew.step hb); have O11 := Lib.hid ho; obtain ⟨⟨p0, p1, p2, p3⟩, -⟩ := CK11.out.c2.xb; clear hb ho)
              | (go_at_call 13; refine (eqRelation _ _ s s w11 w11.heap.size CK11.out.c2.own.reads O11.out.reads (Nat.le_refl _)).mono ?_; rw [sameRel_self]; rintro e w12 ⟨rfl, hb⟩; have CK12 := Lib.hid (CK11.out.step hb); clear hb p0 p1 p2 p3))
            all_goals
              go_wp2_with fail
              go_meet
              exact ⟨rfl, CK12.out⟩
          case rest =>
            obtain ⟨rfl, hck⟩ := hcut
            have CK := Lib.hid hck
            clear q0 q1 q2 q3 hlq k0 k1 k2 k3 hlk CK20
            obtain ⟨V1, hRF1, hin1⟩ := own_relF hck.c1.own
            obtain ⟨V2, hRF2, hin2⟩ := own_relF hck.c2.own
            have HR2 := Lib.hid hRF2
            have HIN1 := Lib.hid hin1
            have HIN2 := Lib.hid hin2
            have HX1 := Lib.hid hck.c1.hX
            have HX2 := Lib.hid hck.c2.hX
            have HUM := Lib.hid hck.hNM
            have HXM := Lib.hid hck.hXM
            have HXL := Lib.hid hck.hXl
            obtain ⟨y1, hy1⟩ : ∃ y1, y1 = 1 + r.accept.length + sumTo (lenF r.next) r.next.length := ⟨_, rfl⟩
            have hy10 : y1 ≤ 1048577 := by have := SS.out; omega
            have HY1 := Lib.hid hy1
            have HM1 := Lib.hid (markRel r.tapes r.start _ _ _ _ _ V1 _ _ 1 M _ hRF1 (by have := hck.c1.own.top; omega) (by have := SS.out; omega) (by omega) (by have := SS.out; omega) (fun h => by have := SS.out; omega))
            rw [← hy1] at HM1
            obtain ⟨⟨q0, q1, q2, q3⟩, hlq⟩ := hck.c1.xb
            have HXB2 := Lib.hid hck.c2.xb
            have HTOP2 := Lib.hid (show M' + 2 + s.next.length ≤ wc.heap.size from hck.c2.own.top)
            clear hck hRF1 hRF2 hin1 hin2 hy1
            go_wp2_with fail
            refine HM1.out.mono ?_
            rintro e w13 ⟨rfl, -, ho⟩
            have S13 := Lib.hid (CK.out.st.markX (ar_keeps w r s va vn ua un) ho (fun b hb => by have h1 := HIN1.out b hb; have h2 := HUM.out; have h3 := HX1.out; have h4 := HXM.out; have h5 := HX2.out; have h6 := HXL.out; omega))
            have R13 := LawKit.relF_only HR2.out ho (fun b hb => by have h1 := HIN1.out b hb; have h3 := HX1.out; have h4 := HXM.out; omega)
            have XB13 := LawKit.Kept.only HXB2.out ho (fun e => by have h1 := HIN1.out _ e; have h3 := HX1.out; have h4 := HXM.out; have h5 := HX2.out; omega)
            obtain ⟨y2, hy2⟩ : ∃ y2, y2 = y1 + s.accept.length + sumTo (lenF s.next) s.next.length := ⟨_, rfl⟩
            have hy20 : y2 ≤ 3000000 := by have h1 := SS.out; have h2 := SS2.out; have h3 := HY1.out; omega
            have HM3 := Lib.hid (markRel s.tapes s.start _ _ _ _ _ V2 _ _ y1 M' _ R13 (Nat.le_trans (by have := HTOP2.out; omega) ho.size) (by have := SS2.out; have := HL.out; omega) hy10 (by have := SS2.out; have := HL.out; omega) (fun h => by have h1 := SS.out; have h2 := SS2.out; have h3 := HY1.out; omega))
            rw [← hy2] at HM3
            clear ho HM1 HR2 HIN1 R13 q0 q1 q2 q3 hlq hy2 HXB2 CK HTOP2
            obtain ⟨⟨q0, q1, q2, q3⟩, hlq⟩ := XB13
            go_wp2_with fail
            refine HM3.out.mono ?_
            rintro e w15 ⟨rfl, -, ho⟩
            have S15 := Lib.hid (S13.out.markX (ar_keeps w r s va vn ua un) ho (fun b hb => by have h1 := HIN2.out b hb; have h2 := HUM.out; have h3 := HX1.out; have h4 := HXM.out; have h5 := HX2.out; have h6 := HXL.out; omega))
            clear ho HM3 HIN2 S13 q0 q1 q2 q3 hlq
            go_wp2_with fail
            refine (eqStrs L L vg vw w15 w15.heap.size (Row.strs S15.out.new HLL.out HLS.out) (S15.out.old.strs.mono S15.out.old.le)).mono ?_
            rw [same_self]
            rintro e w14 ⟨rfl, m14, rfl⟩
            have S14 := Lib.hid (S15.out.step (ar_keeps w r s va vn ua un) (below_drewN (Below.refl _ _) m14))
            generalize w15.drewN m14 = w14 at S14 ⊢
            clear S15
            go_wp2_with fail
            refine (HMS.out _ _ _ _ S14.out.new).mono ?_
            rintro e w16 ⟨rfl, hr, hg⟩
            have S16 := Lib.hid (S14.out.markG (ar_keeps w r s va vn ua un) hg hr)
            clear hg hr S14
            go_wp2_with fail
            refine (HHS.out _ _ (S16.out.new.reads HLM.out)).mono ?_
            rintro e w17 ⟨rfl, hb⟩
            have S17 := Lib.hid (S16.out.step (ar_keeps w r s va vn ua un) hb)
            clear hb S16
            obtain ⟨⟨k0, k1, k2, k3⟩, hlk⟩ := S17.out.ext.a
            obtain ⟨⟨l0, l1, l2, l3⟩, hll⟩ := S17.out.ext.b
            have S17d := Lib.hid (S17.out.drew (ar_keeps w r s va vn ua un))
            go_upto_region 31 with fail
            go_cut [15, 16] (fun v15 v16 wx => v16 = .int .i64 C ∧ St w (w.heap.size + 2) (Ar w r s va vn ua un) N vw L lo vg (fun i => .string (markS (1 + i))) wx ∧ OldS wx.heap.size wx v15 L)
            case first =>
              go_region_with (first
                | (go_at_call_of 10 va; refine (copyOwn _ r _ w.heap.size (HRW.out _ S17d.out.base) S17d.out.base.size SH.out).mono ?_; rintro e w21 ⟨M21, rfl, ho, hb⟩; have S21 := Lib.hid (S17d.out.step (ar_keeps w r s va vn ua un) hb); have O21 := Lib.hid ho; obtain ⟨⟨p0, p1, p2, p3⟩, -⟩ := S21.out.ext.b; clear hb ho)
                | (go_at_call_of 10 ua; refine (copyOwn _ s w21 w.heap.size (HSW.out _ S21.out.base) S21.out.base.size SH2.out).mono ?_; rintro e w22 ⟨M22, rfl, ho, hb⟩; have S22 := Lib.hid (S21.out.step (ar_keeps w r s va vn ua un) hb); have O22 := Lib.hid (O21.out.step hb); have Q22 := Lib.hid ho; clear hb ho)
                | (go_at_call 11; refine (HIO.out _ _ w22 O22.out.reads Q22.out.reads).mono ?_; rintro e w23 ⟨vh, rfl, hf, hb⟩; have S23 := Lib.hid (S22.out.step (ar_keeps w r s va vn ua un) hb); have H23 := Lib.hid (freshS_old hf HLL.out HLS.out); clear hb hf p0 p1 p2 p3))
              all_goals
                go_wp2_with fail
                go_meet
                exact ⟨rfl, S23.out, H23.out⟩
            case rest =>
              obtain ⟨rfl, hS24, hH24⟩ := hcut
              have S24 := Lib.hid hS24
              have H24 := Lib.hid hH24
              generalize wc = w24 at hS24 hH24 S24 H24 ⊢
              generalize u15 = vh at hH24 H24 ⊢
              clear hS24 hH24 S17 S17d k0 k1 k2 k3 l0 l1 l2 l3 hlk hll
              go_wp2_with fail
              refine (eqStrs L L vh vw w24 w24.heap.size H24.out.strs (S24.out.old.strs.mono S24.out.old.le)).mono ?_
              rw [same_self]
              rintro e w25 ⟨rfl, m25, rfl⟩
              have S25 := Lib.hid (S24.out.step (ar_keeps w r s va vn ua un) (below_drewN (Below.refl _ _) m25))
              generalize w24.drewN m25 = w25 at S25 ⊢
              clear S24 H24
              go_wp2_with fail
              refine (HHS.out _ _ (S25.out.new.reads HLM.out)).mono ?_
              rintro e w26 ⟨rfl, hb⟩
              have B26 := Lib.hid (base_step S25.out.base hb)
              clear hb
              go_wp2_with fail
              go_ret
              exact ⟨rfl, B26.out⟩
theorem unlikeL_len (r s : R) : (UnlikeI.unlikeL r s).length ≤ 3 := by
  unfold UnlikeI.unlikeL
  by_cases h : Alike.alikeC r s = 0
  · rw [if_pos h]
    have e1 := (SpecTidyRel.okL (Alike.alike_of h).1).1.2
    exact Found.foundL_len e1.k3 _
  · rw [if_neg h]; exact Nat.zero_le _
theorem unlikeL_short (r s : R) (i : Nat) : ((UnlikeI.unlikeL r s).getD i ByteArray.empty).size ≤ maxLen := by
  unfold UnlikeI.unlikeL
  by_cases h : Alike.alikeC r s = 0
  · rw [if_pos h]; exact Found.foundL_short _ _ _
  · rw [if_neg h]; simp [List.getD]
theorem closed (w : World) (v : Value) (r : R) (hr : RelAt w w.heap.size v r) (u : Value) (s : R) (hs : RelAt w w.heap.size u s) :
    Calls Try.prog 3 #[v, u] w fun e w' => e = .returned (.bool true) ∧ Below w.heap.size w w' :=
  law w v r hr u s hs (UnlikeI.unlikeC r s) (UnlikeI.unlikeL r s) (fun v u W h h' => UnlikeS.specUnlike v u r s W W.heap.size h h' (Nat.le_refl _)) (fun v u W h h' => UnlikeI.unlikeI v u r s W W.heap.size h h' (Nat.le_refl _)) (unlikeL_len r s) (unlikeL_short r s)
end Go.Proofs.Ytjplmmokbkkclaa.LawFirstUnlike
