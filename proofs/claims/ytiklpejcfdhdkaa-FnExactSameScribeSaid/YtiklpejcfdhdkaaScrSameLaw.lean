
/- The law of SameScribe: what the program answers is what the model answers, and the arguments stay as they were.
   Conditions: the arguments are read as XScr's text says. -/
import Derived.Test.YtiklpejcfdhdkaaScrSame
import Derived.Deep.RegionWith
import Derived.Deep.DeepCutAuto
import Derived.Deep.CutBlock
namespace Go.Proofs.Ytiklpejcfdhdkaa.ScrSameLaw
set_option linter.unusedVariables false
set_option linter.unusedSimpArgs false
open Go.RowKit Mem Rel Scr ScrSame

/-- The boxes of the law's arguments. -/
structure St2 (w : World) (r s : X) (va vn vo ua un uo : Value) (W : World) : Prop where
  base : Below w.heap.size w W
  arg : Kept3 W w.heap.size va vn vo
  arg2 : Kept3 W (w.heap.size + 1) ua un uo
theorem St2.step {w : World} {r s : X} {va vn vo ua un uo : Value} {W W' : World} (h : St2 w r s va vn vo ua un uo W) (hb : Below W.heap.size W W') : St2 w r s va vn vo ua un uo W' :=
  ⟨base_step h.base hb, h.arg.step hb, h.arg2.step hb⟩
/-- The program's arguments besides. -/
structure St4 (w : World) (r s : X) (va vn vo ua un uo : Value) (M6 X6 M7 X7 : Nat) (W : World) : Prop where
  st : St2 w r s va vn vo ua un uo W
  own : OwnX W M6 r
  own2 : OwnX W M7 s
  xb : Kept3 W X6 (.slice (some ⟨M6, 0, none⟩) r.accept.length r.accept.length) (.slice (some ⟨M6 + 1, 0, none⟩) r.next.length r.next.length) (.slice (some ⟨M6 + 2 + 3 * r.next.length, 0, none⟩) r.out.length r.out.length)
  xb2 : Kept3 W X7 (.slice (some ⟨M7, 0, none⟩) s.accept.length s.accept.length) (.slice (some ⟨M7 + 1, 0, none⟩) s.next.length s.next.length) (.slice (some ⟨M7 + 2 + 3 * s.next.length, 0, none⟩) s.out.length s.out.length)
theorem St4.step {w : World} {r s : X} {va vn vo ua un uo : Value} {M6 X6 M7 X7 : Nat} {W W' : World} (h : St4 w r s va vn vo ua un uo M6 X6 M7 X7 W) (hb : Below W.heap.size W W') : St4 w r s va vn vo ua un uo M6 X6 M7 X7 W' :=
  ⟨h.st.step hb, h.own.step hb, h.own2.step hb, h.xb.step hb, h.xb2.step hb⟩

set_option maxHeartbeats 4000000 in
theorem law (w : World) (v : Value) (r : X) (hr : ScAt w w.heap.size v r) (u : Value) (s : X) (hs : ScAt w w.heap.size u s) :
    Calls Try.prog 4 #[v, u] w fun e w' => e = .returned (.bool true) ∧ Below w.heap.size w w' := by
  have HRW := Lib.hid (fun W (h : Below w.heap.size w W) => hr.below h (Nat.le_refl _))
  have HSW := Lib.hid (fun W (h : Below w.heap.size w W) => hs.below h (Nat.le_refl _))
  obtain ⟨va, vn, vo, rfl, -, -, -⟩ := hr
  obtain ⟨ua, un, uo, rfl, -, -, -⟩ := hs
  have B0 := Lib.hid (base_box (base_box (Below.refl _ w) (.cells #[va, vn, vo] 26)) (.cells #[ua, un, uo] 26))
  have F0 := Lib.hid ((Kept3.new w va vn vo 26).box (.cells #[ua, un, uo] 26))
  have G0 := Lib.hid (Kept3.new (w.alloc (.cells #[va, vn, vo] 26)) ua un uo 26)
  go_enter Try.func4, Try.ntmps4
  go_wp2_with fail
  refine (szScribe _ r 1048576 _ w.heap.size (HRW.out _ B0.out) B0.out.size (by omega) (by omega)).mono ?_
  rintro e w1 ⟨rfl, hb⟩
  have B1 := Lib.hid (base_step B0.out hb)
  have F1 := Lib.hid (F0.out.step hb)
  have G1' := G0.out.step hb
  clear hb
  simp only [World.size_alloc] at G1'
  have G1 := Lib.hid G1'
  obtain ⟨k0, k1, k2, -⟩ := F1.out
  obtain ⟨l0, l1, l2, -⟩ := G1'
  obtain ⟨z, hz⟩ : ∃ z, z = szSc 1048576 r := ⟨_, rfl⟩
  rw [← hz]
  have HZ := Lib.hid hz
  clear hz
  by_cases hneg : z < 0
  · go_wp2_with fail
    go_ret
    exact ⟨rfl, B1.out⟩
  · have SH := Lib.hid (shortX_of (x := r) (Int.le_refl _) (by rw [← HZ.out]; omega))
    have HL := Lib.hid (show z ≤ 1048576 by rw [HZ.out]; exact szSc_low (by omega))
    go_wp2_with fail
    refine (szScribe _ s z _ w.heap.size (HSW.out _ B1.out) B1.out.size (by omega) HL.out).mono ?_
    rintro e w2 ⟨rfl, hb⟩
    have B2 := Lib.hid (base_step B1.out hb)
    have F2 := Lib.hid (F1.out.step hb)
    have G2 := Lib.hid (G1.out.step hb)
    clear hb k0 k1 k2 l0 l1 l2
    obtain ⟨k0, k1, k2, -⟩ := F2.out
    obtain ⟨l0, l1, l2, -⟩ := G2.out
    obtain ⟨y, hy⟩ : ∃ y, y = szSc z s := ⟨_, rfl⟩
    rw [← hy]
    have HY := Lib.hid hy
    clear hy
    by_cases hneg2 : y < 0
    · go_wp2_with fail
      go_ret
      exact ⟨rfl, B2.out⟩
    · have SH2 := Lib.hid (shortX_of (x := s) HL.out (by rw [← HY.out]; omega))
      have S2 := Lib.hid (show St2 w r s va vn vo ua un uo w2 from ⟨B2.out, F2.out, G2.out⟩)
      obtain ⟨ok, hok⟩ : ∃ ok, ok = sameX r s := ⟨_, rfl⟩
      have HSO := Lib.hid (fun W B v u (h : ScAt W B v r) (g : ScAt W B u s) (hB : B ≤ W.heap.size) => specSame v u r s W B h g hB)
      have HIO := Lib.hid (fun W B v u (h : ScAt W B v r) (g : ScAt W B u s) (hB : B ≤ W.heap.size) => implSame v u r s W B h g hB)
      rw [← hok] at HSO HIO
      clear hok
      go_upto_region 8 with fail
      go_cut [6] (fun v6 wx => v6 = .bool ok ∧ St2 w r s va vn vo ua un uo wx)
      case first =>
        go_region_with (first
          | (go_at_call_of 9 va; refine (copySc _ r _ w.heap.size (HRW.out _ B2.out.drew) B2.out.drew.size SH.out).mono ?_; rintro e w3 ⟨M3, rfl, ho, hb, -⟩; have S3 := Lib.hid (S2.out.step (((Below.refl _ _).drew).trans hb)); have O3 := Lib.hid ho; obtain ⟨p0, p1, p2, -⟩ := S3.out.arg2; clear hb ho)
          | (go_at_call_of 9 ua; refine (copySc _ s w3 w.heap.size (HSW.out _ S3.out.base) S3.out.base.size SH2.out).mono ?_; rintro e w4 ⟨M4, rfl, ho, hb, -⟩; have S4 := Lib.hid (S3.out.step hb); have O4 := Lib.hid (O3.out.step hb); have Q4 := Lib.hid ho; clear hb ho)
          | (go_at_call 12; refine (HSO.out w4 w4.heap.size _ _ O4.out.reads Q4.out.reads (Nat.le_refl _)).mono ?_; rintro e w5 ⟨rfl, hb⟩; have S5 := Lib.hid (S4.out.step hb); clear hb p0 p1 p2))
        all_goals
          go_wp2_with fail
          go_meet
          exact ⟨rfl, S5.out⟩
      case rest =>
        obtain ⟨rfl, hck⟩ := hcut
        have S5 := Lib.hid hck
        clear hck k0 k1 k2 l0 l1 l2 S2 B2 F2 G2 HSO
        obtain ⟨k0, k1, k2, -⟩ := S5.out.arg
        go_wp2_with fail
        refine (copySc _ r _ w.heap.size (HRW.out _ S5.out.base) S5.out.base.size SH.out).mono ?_
        rintro e w6 ⟨M6, rfl, ho, hb, -⟩
        have S6 := Lib.hid (S5.out.step hb)
        have S6b := Lib.hid (S6.out.step ((Below.refl _ _).alloc (Nat.le_refl _) (.cells #[.slice (some ⟨M6, 0, none⟩) r.accept.length r.accept.length, .slice (some ⟨M6 + 1, 0, none⟩) r.next.length r.next.length, .slice (some ⟨M6 + 2 + 3 * r.next.length, 0, none⟩) r.out.length r.out.length] 29)))
        have O6 := Lib.hid (ho.box (.cells #[.slice (some ⟨M6, 0, none⟩) r.accept.length r.accept.length, .slice (some ⟨M6 + 1, 0, none⟩) r.next.length r.next.length, .slice (some ⟨M6 + 2 + 3 * r.next.length, 0, none⟩) r.out.length r.out.length] 29))
        have K6 := Lib.hid (Kept3.new w6 (.slice (some ⟨M6, 0, none⟩) r.accept.length r.accept.length) (.slice (some ⟨M6 + 1, 0, none⟩) r.next.length r.next.length) (.slice (some ⟨M6 + 2 + 3 * r.next.length, 0, none⟩) r.out.length r.out.length) 29)
        clear hb ho k0 k1 k2 S5
        obtain ⟨l0, l1, l2, hlt⟩ := S6.out.arg2
        go_wp2_with fail
        refine (copySc _ s _ w.heap.size (HSW.out _ S6b.out.base) S6b.out.base.size SH2.out).mono ?_
        rintro e w7 ⟨M7, rfl, ho, hb, -⟩
        have S7 := Lib.hid (show St4 w r s va vn vo ua un uo M6 w6.heap.size M7 w7.heap.size (w7.alloc (.cells #[.slice (some ⟨M7, 0, none⟩) s.accept.length s.accept.length, .slice (some ⟨M7 + 1, 0, none⟩) s.next.length s.next.length, .slice (some ⟨M7 + 2 + 3 * s.next.length, 0, none⟩) s.out.length s.out.length] 29)) from
          ⟨(S6b.out.step hb).step ((Below.refl _ _).alloc (Nat.le_refl _) _), (O6.out.step hb).box _, ho.box _, (K6.out.step hb).box _, Kept3.new _ _ _ _ _⟩)
        have K7 := K6.out.step hb
        have HI7 := Lib.hid (HIO.out _ _ _ _ S7.out.own.reads S7.out.own2.reads (Nat.le_refl _))
        clear hb ho l0 l1 l2 S6 S6b O6 K6
        obtain ⟨q0, q1, q2, hlq⟩ := K7
        go_wp2_with fail
        refine HI7.out.mono ?_
        rintro e w8 ⟨rfl, hb⟩
        have S8' := Lib.hid (S7.out.step hb)
        clear hb HI7 S7 q0 q1 q2 hlq
        obtain ⟨X6, hX6⟩ : ∃ X, X = w6.heap.size := ⟨_, rfl⟩
        obtain ⟨X7, hX7⟩ : ∃ X, X = w7.heap.size := ⟨_, rfl⟩
        rw [← hX6, ← hX7] at S8'
        rw [← hX6, ← hX7]
        clear hX6 hX7
        have S8 := S8'
        clear S8'
        obtain ⟨k0, k1, k2, -⟩ := S8.out.st.arg
        obtain ⟨q0, q1, q2, -⟩ := S8.out.xb
        have hkk : (ok != ok) = false := by simp
        have hkk2 : (ok == ok) = true := by simp
        go_upto_region 14 with fail
        go_cut [39] (fun v39 wx => v39 = .bool false ∧ St4 w r s va vn vo ua un uo M6 X6 M7 X7 wx)
        case first =>
          go_region_with (first
            | (go_at_call 9; refine (copySc _ r _ w.heap.size (HRW.out _ S8.out.st.base.drew) S8.out.st.base.drew.size SH.out).mono ?_; rintro e w9 ⟨M9, rfl, ho, hb, -⟩; have S9 := Lib.hid (S8.out.step (((Below.refl _ _).drew).trans hb)); have P9 := Lib.hid ho; obtain ⟨p0, p1, p2, -⟩ := S9.out.xb; clear hb ho)
            | (go_at_call 11; refine (eqScribe _ _ r r w9 w9.heap.size S9.out.own.reads P9.out.reads (Nat.le_refl _)).mono ?_; rw [sameX_self]; rintro e w10 ⟨rfl, hb⟩; have S10 := Lib.hid (S9.out.step hb); clear hb p0 p1 p2))
          all_goals
            go_wp2_with fail
            go_meet
            exact ⟨rfl, S10.out⟩
        case rest =>
          obtain ⟨rfl, hck⟩ := hcut
          have S10 := Lib.hid hck
          clear hck k0 k1 k2 q0 q1 q2 S8
          obtain ⟨l0, l1, l2, -⟩ := S10.out.st.arg2
          obtain ⟨q0, q1, q2, -⟩ := S10.out.xb2
          go_wp2_with fail
          go_region_with (first
            | (go_at_call 9; refine (copySc _ s _ w.heap.size (HSW.out _ S10.out.st.base.drew) S10.out.st.base.drew.size SH2.out).mono ?_; rintro e w11 ⟨M11, rfl, ho, hb, -⟩; have S11 := Lib.hid (S10.out.step (((Below.refl _ _).drew).trans hb)); have P11 := Lib.hid ho; obtain ⟨p0, p1, p2, -⟩ := S11.out.xb2; clear hb ho)
            | (go_at_call 11; refine (eqScribe _ _ s s w11 w11.heap.size S11.out.own2.reads P11.out.reads (Nat.le_refl _)).mono ?_; rw [sameX_self]; rintro e w12 ⟨rfl, hb⟩; have S12 := Lib.hid (S11.out.step hb); clear hb p0 p1 p2))
          all_goals
            go_wp2_with fail
            go_ret
            exact ⟨rfl, S12.out.st.base⟩
end Go.Proofs.Ytiklpejcfdhdkaa.ScrSameLaw
