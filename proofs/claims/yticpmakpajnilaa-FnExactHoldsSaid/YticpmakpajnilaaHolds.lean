
/- What Holds answers, the program's and the model's.
   Conditions: the arguments are read as XRel's and XStrs' texts say. -/
import Derived.Test.YticpmakpajnilaaTakes
import Derived.Test.YticpmakpajnilaaValidImpl
namespace Go.Proofs.Yticpmakpajnilaa.Holds
open Go.RowKit Mem Copy Rel Strs WordMath Words ColMath Columns Valid ValidImpl SpecCols Numbers ImplCols Takes

def holdsC (r : R) (ss : List ByteArray) : Int := if okB r = true ∧ wordsB ss = true then (if (ss.length : Int) = r.tapes then 0 else 2) else 1
def holdsB (r : R) (ss : List ByteArray) : Bool := decide (okB r = true ∧ wordsB ss = true ∧ (ss.length : Int) = r.tapes) && takes r ss
def holdsV (r : R) (ss : List ByteArray) : Value := .tuple #[.bool (holdsB r ss), .int .i64 (holdsC r ss)]

theorem holds_bad1 {r : R} {ss : List ByteArray} (h : okB r = false) : holdsV r ss = .tuple #[.bool false, .int .i64 1] := by simp [holdsV, holdsB, holdsC, h]
theorem holds_bad2 {r : R} {ss : List ByteArray} (h : wordsB ss = false) : holdsV r ss = .tuple #[.bool false, .int .i64 1] := by simp [holdsV, holdsB, holdsC, h]
theorem holds_bad3 {r : R} {ss : List ByteArray} (h : okB r = true) (h2 : wordsB ss = true) (h3 : ¬ (ss.length : Int) = r.tapes) : holdsV r ss = .tuple #[.bool false, .int .i64 2] := by simp [holdsV, holdsB, holdsC, h, h2, h3]
theorem holds_yes {r : R} {ss : List ByteArray} (h : okB r = true) (h2 : wordsB ss = true) (h3 : (ss.length : Int) = r.tapes) : holdsV r ss = .tuple #[.bool (takes r ss), .int .i64 0] := by simp [holdsV, holdsB, holdsC, h, h2, h3]

theorem ret_of {a b : Value} (h : a = b) : Ending.returned a = Ending.returned b := by rw [h]

set_option maxHeartbeats 1000000 in
theorem specHolds (v : Value) (r : R) (va : Value) (ss : List ByteArray) (w : World) (B : Nat) (hr : RelAt w B v r) (ha : StrsAt w B va ss) (hB : B ≤ w.heap.size) :
    Calls Try.prog 37 #[v, va] w fun e w' => e = .returned (holdsV r ss) ∧ Below w.heap.size w w' := by
  obtain ⟨ra, rn, rfl, hacc, hnext⟩ := hr
  have HP := Lib.hid (RelPtr.boxed hacc hnext hB 34)
  have HB := Lib.hid (base_box (Below.refl _ w) (.cells #[.int .i64 r.tapes, .int .i64 r.start, ra, rn] 34))
  have HO := Lib.hid (specOk r w.heap.size _ B HP.out)
  have HS := Lib.hid (fun W (h : Below w.heap.size w W) => ha.below h hB)
  have HBB := Lib.hid hB
  obtain ⟨⟨aa, ab, ao, ac, rfl, hma, -, -⟩, -⟩ := ha
  unfold maxLen at hma
  clear hacc hnext hB
  obtain ⟨n, hn⟩ : ∃ n, n = ss.length := ⟨_, rfl⟩
  rw [← hn] at hma HS
  rw [← hn]
  have HN := Lib.hid hn
  clear hn
  cases hok : okB r with
  | false =>
    have HV := Lib.hid (holds_bad1 (ss := ss) hok)
    rw [hok] at HO
    clear hok
    go_enter Try.func37, Try.ntmps37
    go_wp2_with (go_at_call 61; refine (HO.out).mono ?_; rintro e w' ⟨rfl, m1, rfl⟩)
    go_ret2
    exact ⟨by rw [HV.out]; rfl, below_drewN HB.out _⟩
  | true =>
    have HOK := Lib.hid hok
    rw [hok] at HO
    clear hok
    cases hws : wordsB ss with
    | false =>
      have HV := Lib.hid (holds_bad2 (r := r) hws)
      have HWS := Lib.hid hws
      clear hws
      go_enter Try.func37, Try.ntmps37
      go_wp2_with (first | (go_at_call 61; refine (HO.out).mono ?_; rintro e w' ⟨rfl, m1, rfl⟩) | (go_at_call 71; refine (specWords ss _ _ B (HS.out _ (below_drewN HB.out _))).mono ?_; rw [HWS.out]; rintro e w' ⟨rfl, rfl⟩))
      go_ret2
      exact ⟨by rw [HV.out]; rfl, below_drewN HB.out _⟩
    | true =>
      have HWS := Lib.hid hws
      clear hws
      by_cases hl : (n : Int) = r.tapes
      · have HV := Lib.hid (holds_yes HOK.out HWS.out (by rw [← HN.out]; exact hl))
        have HT := Lib.hid (fun m => specTakes r ss w.heap.size (.slice aa n ac) (World.drewN _ m) B (HP.out.drewN m) (HS.out _ (below_drewN HB.out _)) (by have := HBB.out; simp; omega) (by simp) (good_of HOK.out) HWS.out (by rw [← HN.out]; exact hl))
        have hl1 : ((n : Int) != r.tapes) = false := by simp [hl]
        clear hl
        go_enter Try.func37, Try.ntmps37
        go_wp2_with (first | (go_at_call 61; refine (HO.out).mono ?_; rintro e w' ⟨rfl, m1, rfl⟩) | (go_at_call 71; refine (specWords ss _ _ B (HS.out _ (below_drewN HB.out _))).mono ?_; rw [HWS.out]; rintro e w' ⟨rfl, rfl⟩) | (go_at_call 76; refine (HT.out _).mono ?_; rintro e w3 ⟨rfl, hb3⟩))
        go_ret2
        exact ⟨by rw [HV.out]; rfl, base_step (below_drewN HB.out _) (by assumption)⟩
      · have HV := Lib.hid (holds_bad3 HOK.out HWS.out (by rw [← HN.out]; exact hl))
        have hl1 : ((n : Int) != r.tapes) = true := by rw [bne_iff_ne]; exact hl
        clear hl
        go_enter Try.func37, Try.ntmps37
        go_wp2_with (first | (go_at_call 61; refine (HO.out).mono ?_; rintro e w' ⟨rfl, m1, rfl⟩) | (go_at_call 71; refine (specWords ss _ _ B (HS.out _ (below_drewN HB.out _))).mono ?_; rw [HWS.out]; rintro e w' ⟨rfl, rfl⟩))
        go_ret2
        exact ⟨by rw [HV.out]; rfl, below_drewN HB.out _⟩

set_option maxHeartbeats 2000000 in
theorem implHolds (v : Value) (r : R) (va : Value) (ss : List ByteArray) (w : World) (B : Nat) (hr : RelAt w B v r) (ha : StrsAt w B va ss) (hB : B ≤ w.heap.size) :
    Calls Try.prog 38 #[v, va] w fun e w' => e = .returned (holdsV r ss) ∧ Below w.heap.size w w' := by
  have HRW := Lib.hid (fun W (h : Below w.heap.size w W) => hr.below h hB)
  obtain ⟨ra, rn, rfl, hacc, hnext⟩ := hr
  have HB := Lib.hid (base_box (Below.refl _ w) (.cells #[.int .i64 r.tapes, .int .i64 r.start, ra, rn] 34))
  have HKP := Lib.hid (Kept.new w (.int .i64 r.tapes) (.int .i64 r.start) ra rn 34)
  have HO := Lib.hid (implValid _ r _ B (HRW.out _ HB.out) (Nat.le_trans hB HB.out.size))
  have HS := Lib.hid (fun W (h : Below w.heap.size w W) => ha.below h hB)
  have HA := Lib.hid (fun W (h : Below w.heap.size w W) => hacc.below h hB)
  have HX := Lib.hid (fun W (h : Below w.heap.size w W) => hnext.below h hB)
  have HBB := Lib.hid hB
  obtain ⟨⟨aa, ab, ao, ac, rfl, hma, -, -⟩, -⟩ := ha
  unfold maxLen at hma
  clear hacc hnext hB
  obtain ⟨n, hn⟩ : ∃ n, n = ss.length := ⟨_, rfl⟩
  rw [← hn] at hma HS
  rw [← hn]
  have HN := Lib.hid hn
  clear hn
  cases hok : okB r with
  | false =>
    have HV := Lib.hid (holds_bad1 (ss := ss) hok)
    rw [hok] at HO
    clear hok
    go_enter Try.func38, Try.ntmps38
    go_wp2_with (go_at_call 24; refine (HO.out).mono ?_; rintro e w2 ⟨rfl, hb2⟩)
    go_ret2
    exact ⟨by rw [HV.out]; rfl, base_step HB.out (by assumption)⟩
  | true =>
    have HOK := Lib.hid hok
    rw [hok] at HO
    clear hok
    cases hws : wordsB ss with
    | false =>
      have HV := Lib.hid (holds_bad2 (r := r) hws)
      have HWS := Lib.hid hws
      clear hws
      go_enter Try.func38, Try.ntmps38
      go_wp2_with fail
      refine (HO.out).mono ?_
      rintro e w2 ⟨rfl, hb2⟩
      have B2 := Lib.hid (base_step HB.out hb2)
      clear hb2
      go_wp2_with (go_at_call 73; refine (implWords ss _ _ B (HS.out _ B2.out)).mono ?_; rw [HWS.out]; rintro e w' ⟨rfl, rfl⟩)
      go_ret2
      exact ⟨by rw [HV.out]; rfl, B2.out⟩
    | true =>
      have HWS := Lib.hid hws
      clear hws
      go_enter Try.func38, Try.ntmps38
      go_wp2_with fail
      refine (HO.out).mono ?_
      rintro e w2 ⟨rfl, hb2⟩
      have B2 := Lib.hid (base_step HB.out hb2)
      have K2 := Lib.hid (HKP.out.step hb2)
      clear hb2
      obtain ⟨⟨k0, k1, k2, k3⟩, -⟩ := K2.out
      by_cases hl : (n : Int) = r.tapes
      · have HV := Lib.hid (holds_yes HOK.out HWS.out (by rw [← HN.out]; exact hl))
        have g := good_of HOK.out
        have t1 := g.t1
        have t3 := g.t3
        have HG := Lib.hid g
        have hlen : (ss.length : Int) = r.tapes := by rw [← HN.out]; exact hl
        have HLT := Lib.hid (fun k hk => run_lt g HWS.out hlen k hk)
        have HCB := Lib.hid (fun k hk => colK_bound HWS.out (by omega) r.tapes (by omega) hlen k hk)
        have HC := Lib.hid (implCols ss (.slice aa n ac) w2 B (HS.out _ B2.out) (Nat.le_trans HBB.out B2.out.size) HWS.out (by omega) (by omega))
        have HL40 := width_le ss HWS.out
        have hl1 : ((n : Int) != r.tapes) = false := by simp [hl]
        clear hl hlen g t1 t3
        go_wp2_with (go_at_call 73; refine (implWords ss _ _ B (HS.out _ B2.out)).mono ?_; rw [HWS.out]; rintro e w' ⟨rfl, rfl⟩)
        refine (HC.out).mono ?_
        rintro e w4 ⟨v, rfl, hown, hb⟩
        have hv := ints_of_owns hown (by rw [cols_length]; unfold maxLen; omega)
        have B4 := Lib.hid (base_step B2.out hb)
        have K4 := Lib.hid (K2.out.step hb)
        have hA := HA.out w4 B4.out
        have hN := HX.out w4 B4.out
        obtain ⟨⟨k0', k1', c2, c3⟩, -⟩ := K4.out
        clear k0 k1 k2 k3 hb hown k0' k1'
        obtain ⟨av, bv, ov, cv, rfl, hmv, hvv, hcv⟩ := hv
        obtain ⟨ba, bba, oa, ca, rfl, hmba, haa, hca⟩ := hA
        obtain ⟨U, ⟨bn, bb, ob, cb, rfl, hmb, hbb, hcb⟩, hU⟩ := hN
        rw [cols_length] at hmv hvv hcv
        rw [cols_length]
        obtain ⟨q, hq⟩ : ∃ q, q = width ss := ⟨_, rfl⟩
        rw [← hq] at hmv hvv hcv HL40
        rw [← hq]
        have HQ := Lib.hid hq
        obtain ⟨l, hn⟩ : ∃ l, l = r.accept.length := ⟨_, rfl⟩
        have hn2 : r.next.length = l := by rw [hn]; exact HG.out.len
        have hn150 : l ≤ 150 := by rw [hn]; exact HG.out.few
        rw [← hn] at hmba haa hca c2
        rw [hn2] at hmb hbb hcb hU c3
        have HN2 := Lib.hid hn
        rw [← hn, hn2]
        obtain ⟨s0, hs0⟩ : ∃ s0 : Nat, r.start = (s0 : Int) := ⟨r.start.toNat, by have := HG.out.s0; omega⟩
        have HS0 := Lib.hid hs0
        rw [hs0]
        clear hq hn hn2 hs0 hmba hmb hmv
        go_wp2_with fail
        go_loop [6, 27] (fun st i => ∃ k s : Nat, k ≤ q ∧ i = .int .i64 k ∧ st = .int .i64 s ∧ s = runK r ss k) (fun _ i => q - (intOf i).toNat)
        case atStart => exact ⟨0, s0, Nat.zero_le _, rfl, rfl, by show s0 = r.start.toNat; rw [HS0.out]; simp⟩
        case round =>
          obtain ⟨k, s, hk, rfl, rfl, hs⟩ := hrel
          have hsn : s < l := by rw [hs, HN2.out]; exact HLT.out k (by rw [← HQ.out]; exact hk)
          have HSK := Lib.hid hs
          clear hs
          by_cases hlt : k < q
          · obtain rfl := (hvv (by omega)).1
            obtain rfl := (hbb (by omega)).1
            have cV : w4.cell? ⟨bv, ov + k, none⟩ = some (.int .i64 ((cols ss).getD k 0)) := hcv k hlt
            have cH := hcb s hsn
            have hUs := hU s hsn
            obtain ⟨x0, x1⟩ := HCB.out k (by rw [← HQ.out]; exact hlt)
            have ecol : (cols ss).getD k 0 = colTo ss k ss.length := by
              rw [cols_eq]; simp [colsTo, List.getD, (by rw [← HQ.out]; exact hlt : k < width ss)]
            obtain ⟨c, hc⟩ : ∃ c : Nat, colTo ss k ss.length = (c : Int) := ⟨(colTo ss k ss.length).toNat, by omega⟩
            rw [ecol, hc] at cV
            obtain ⟨u, hu⟩ : ∃ u, u = U s := ⟨_, rfl⟩
            rw [← hu] at cH hUs
            obtain ⟨ax, bx, ox, cx, hux, hmx, hxx, hcx⟩ := hUs
            have hrl := HG.out.row s (by rw [← HN2.out]; exact hsn)
            obtain ⟨p, hp⟩ : ∃ p, p = (r.next.getD s []).length := ⟨_, rfl⟩
            rw [← hp] at hux hmx hxx hcx hrl
            have hcp : c < p := by omega
            obtain rfl := (hxx (by omega)).1
            rw [hux] at cH
            have cX : w4.cell? ⟨bx, ox + c, none⟩ = some (.int .i64 ((r.next.getD s []).getD c 0)) := hcx c hcp
            have hcell := HG.out.cell s c (by rw [← HN2.out]; exact hsn) (by omega)
            obtain ⟨y, hy⟩ : ∃ y : Nat, (r.next.getD s []).getD c 0 = (y : Int) := ⟨((r.next.getD s []).getD c 0).toNat, by omega⟩
            rw [hy] at cX
            have HSU := Lib.hid (show y = runK r ss (k + 1) by
              show y = ((r.next.getD (runK r ss k) []).getD (colTo ss k ss.length).toNat 0).toNat
              rw [← HSK.out, hc, Int.toNat_natCast, hy, Int.toNat_natCast])
            unfold maxLen at hmx
            clear hcv hcb hU hcx hxx hux hu hy hcell hc ecol x0 x1 hp hrl hca haa hvv hbb
            go_wp2
            go_round
            case rel => exact ⟨k + 1, y, by omega, by go_num, rfl, HSU.out⟩
            case measure => simp [intOf]; omega
          · obtain rfl := (haa (by omega)).1
            have cA : w4.cell? ⟨bba, oa + s, none⟩ = some (.bool (r.accept.getD s false)) := hca s hsn
            have HE := Lib.hid (show r.accept.getD s false = takes r ss by
              unfold takes
              rw [HSK.out, show k = width ss by have := HQ.out; omega])
            obtain ⟨z, hz⟩ : ∃ z, z = r.accept.getD s false := ⟨_, rfl⟩
            rw [← hz] at cA HE
            clear hz hca haa hcv hcb hU hvv hbb
            go_wp2
            go_ret2
            exact ⟨by rw [HV.out, ← HE.out]; rfl, B4.out⟩
      · have HV := Lib.hid (holds_bad3 HOK.out HWS.out (by rw [← HN.out]; exact hl))
        have hl1 : ((n : Int) != r.tapes) = true := by rw [bne_iff_ne]; exact hl
        clear hl
        go_wp2_with (go_at_call 73; refine (implWords ss _ _ B (HS.out _ B2.out)).mono ?_; rw [HWS.out]; rintro e w' ⟨rfl, rfl⟩)
        go_ret2
        exact ⟨by rw [HV.out]; rfl, B2.out⟩
end Go.Proofs.Yticpmakpajnilaa.Holds
