
/- Whether a scribe is valid, by the program.
   Conditions: the scribe is read as XScr's text says. -/
import Derived.Test.YtiklpejcfdhdkaaScrValid
namespace Go.Proofs.Ytiklpejcfdhdkaa.ScrImpl
set_option linter.unusedVariables false
set_option linter.unusedSimpArgs false
set_option maxRecDepth 100000
open Go.RowKit Mem Copy Rel Scr Columns ScrValid

theorem index0 (x y : ByteArray) (w : World) : (Instr.index 55 (.agg #[.string x, .string y]) (.int .i64 0)).run Try.prog w = .ok (.string x) w := by kernel_rfl
theorem index1 (x y : ByteArray) (w : World) : (Instr.index 55 (.agg #[.string x, .string y]) (.int .i64 1)).run Try.prog w = .ok (.string y) w := by kernel_rfl

set_option maxHeartbeats 8000000 in
theorem implValid (v : Value) (x : X) (w : World) (B : Nat) (h : ScAt w B v x) (hB : B ≤ w.heap.size) :
    Calls Try.prog 10 #[v] w fun e w' => e = .returned (.bool (okX x)) ∧ Below w.heap.size w w' := by
  obtain ⟨va, vn, vo, rfl, hacc, hnx, hou⟩ := h
  obtain ⟨aa, ba, oa, ca, rfl, hma, -, -⟩ := hacc
  obtain ⟨ab, bb, ob, cb, rfl, hmb, hbb, hcb⟩ := hnx
  obtain ⟨ad, bd, od, cd, rfl, hmd, hbd, hcd⟩ := hou
  unfold maxLen at hma hmb hmd
  have HF1 := Lib.hid (fun h => okX_n (x := x) h)
  have HF2 := Lib.hid (fun h => okX_next (x := x) h)
  have HF3 := Lib.hid (fun h => okX_out (x := x) h)
  have HF4 := Lib.hid (fun i hi h => okX_not (x := x) (i := i) hi h)
  have HF5 := Lib.hid (fun h1 h2 h3 h => okX_yes (x := x) h1 h2 h3 h)
  obtain ⟨xa, xn, xo⟩ := x
  obtain ⟨n, hn⟩ : ∃ n, n = xa.length := ⟨_, rfl⟩
  obtain ⟨m, hm⟩ : ∃ m, m = xn.length := ⟨_, rfl⟩
  obtain ⟨q, hq⟩ : ∃ q, q = xo.length := ⟨_, rfl⟩
  simp only at hma hmb hbb hcb hmd hbd hcd HF1 HF2 HF3 HF4 HF5 ⊢
  rw [← hn] at hma HF1 HF2 HF3 HF4 HF5
  rw [← hm] at hmb hbb hcb HF2 HF5
  rw [← hq] at hmd hbd hcd HF3 HF5
  rw [← hn, ← hm, ← hq]
  have HC := Lib.hid hcb
  have HD := Lib.hid hcd
  have HBB := Lib.hid hB
  clear hn hm hq hcb hcd
  have HB0 := Lib.hid (base_box (Below.refl _ w) (.cells #[.slice aa n ca, .slice ab m cb, .slice ad q cd] 29))
  have HK0 := Lib.hid (Kept3.new w (.slice aa n ca) (.slice ab m cb) (.slice ad q cd) 29)
  cases g1 : inB (n : Int) 1 150 with
  | false =>
    have HE := Lib.hid (HF1.out g1)
    clear HF1 HF2 HF3 HF4 HF5 hbb hbd
    go_enter Try.func10, Try.ntmps10
    go_wp2_with (go_at_call 29; refine (withinAny _ _ _ _).mono ?_; rintro e w' ⟨rfl, rfl⟩)
    go_ret
    exact ⟨by rw [HE.out]; rfl, HB0.out⟩
  | true =>
    have hn1 : 1 ≤ (n : Int) ∧ (n : Int) ≤ 150 := by unfold inB at g1; simpa using g1
    obtain ⟨hn0, hn150⟩ := hn1
    have G1 := Lib.hid g1
    by_cases hmn : m = n
    · by_cases hqn : q = n
      · subst hmn hqn
        clear HF1 HF2 HF3
        have HF6 := Lib.hid (HF5.out G1.out rfl rfl)
        clear HF5
        go_enter Try.func10, Try.ntmps10
        go_wp2_with (go_at_call 29; refine (withinAny _ _ _ _).mono ?_; rintro e w' ⟨rfl, rfl⟩)
        clear g1
        go_loopw [37] (fun i wr => ∃ k : Nat, k ≤ q ∧ i = .int .i64 k ∧ (∀ i, i < k → okAt q (xn.getD i ArrI.noD) (xo.getD i ArrS.noD) = true) ∧ Below w.heap.size w wr ∧ Kept3 wr w.heap.size (.slice aa q ca) (.slice ab q cb) (.slice ad q cd)) (fun i _ => q - (intOf i).toNat)
        case atStart => exact ⟨0, Nat.zero_le _, rfl, fun i hi => absurd hi (Nat.not_lt_zero i), HB0.out, HK0.out⟩
        case round =>
          obtain ⟨k, hk, rfl, hg, hbel, hkp⟩ := hrel
          have HG := Lib.hid hg
          have HBL := Lib.hid hbel
          have HKP := Lib.hid hkp
          clear hg hbel
          by_cases hlt : k < q
          · obtain ⟨r0, r1, r2, hl⟩ := hkp
            have hl1 : w.heap.size < wr.heap.size + 1 := by omega
            have hbb1 := (hbb (by omega)).2
            have hbd1 := (hbd (by omega)).2
            obtain rfl := (hbb (by omega)).1
            obtain rfl := (hbd (by omega)).1
            have hb1 : bb < wr.heap.size := by have := HBB.out; omega
            have hb2 : bd < wr.heap.size := by have := HBB.out; omega
            have hb3 : bb < wr.heap.size + 1 := by omega
            have hb4 : bd < wr.heap.size + 1 := by omega
            obtain ⟨c0, c1⟩ := ((HC.out k hlt).1).below HBL.out (by have := HBB.out; omega)
            obtain ⟨d0, d1⟩ := ((HD.out k hlt).1).below HBL.out (by have := HBB.out; omega)
            have HNO := Lib.hid (HF4.out k hlt)
            obtain ⟨d, hd⟩ : ∃ d, d = xn.getD k ArrI.noD := ⟨_, rfl⟩
            obtain ⟨o, ho⟩ : ∃ o, o = xo.getD k ArrS.noD := ⟨_, rfl⟩
            rw [← hd] at c0 c1 HNO
            rw [← ho] at d0 d1 HNO
            have HYES := Lib.hid (fun h : okAt q d o = true => (show ∀ i, i < k + 1 → okAt q (xn.getD i ArrI.noD) (xo.getD i ArrS.noD) = true from fun i hi => by
              by_cases e : i = k
              · subst e; rw [← hd, ← ho]; exact h
              · exact HG.out i (by omega)))
            have HA1 := Lib.hid (fun h => HNO.out (okAt_no1 (n := q) (d := d) (o := o) h))
            have HA2 := Lib.hid (fun h => HNO.out (okAt_no2 (n := q) (d := d) (o := o) h))
            have HA3 := Lib.hid (fun h1 h2 => HYES.out (okAt_yes (n := q) (d := d) (o := o) h1 h2))
            obtain ⟨dx, dy⟩ := d
            obtain ⟨ox, oy⟩ := o
            simp only at c0 c1 d0 d1 HA1 HA2 HA3
            have hx0 := fun w => index0 ox oy w
            have hx1 := fun w => index1 ox oy w
            clear hd ho HNO HYES hbb hbd HC HD HF4 HF6
            cases e1 : half q dx ox with
            | false =>
              have HR := Lib.hid (HA1.out e1)
              clear HA1 HA2 HA3
              rcases half_no e1 with ⟨rfl, i1, s1⟩ | ⟨z1, i1⟩ | ⟨z1, i1, s1, s2⟩
              · obtain ⟨u1, u2⟩ := ne_nil s1
                clear e1
                go_wp2
                refine wp_loop_rounds 3 ?_
                rw [rounds_succ]
                go_wp2_with (go_at_call 29; refine (withinAny _ _ _ _).mono ?_; rintro e w' ⟨rfl, rfl⟩)
                go_ret
                exact ⟨by rw [HR.out]; rfl, base_box HBL.out _⟩
              · clear e1
                go_wp2
                refine wp_loop_rounds 3 ?_
                rw [rounds_succ]
                go_wp2_with (go_at_call 29; refine (withinAny _ _ _ _).mono ?_; rintro e w' ⟨rfl, rfl⟩)
                go_ret
                exact ⟨by rw [HR.out]; rfl, base_box HBL.out _⟩
              · obtain ⟨u1, u2⟩ := ne_one s1
                obtain ⟨u3, u4⟩ := ne_one s2
                clear e1
                go_wp2
                refine wp_loop_rounds 3 ?_
                rw [rounds_succ]
                go_wp2_with (go_at_call 29; refine (withinAny _ _ _ _).mono ?_; rintro e w' ⟨rfl, rfl⟩)
                go_ret
                exact ⟨by rw [HR.out]; rfl, base_box HBL.out _⟩
            | true =>
              have HA2 := Lib.hid HA2.out
              have HA3 := Lib.hid (HA3.out e1)
              clear HA1
              cases e2 : half q dy oy with
              | false =>
                have HR := Lib.hid (HA2.out e2)
                clear HA2 HA3
                rcases half_yes e1 with ⟨rfl, rfl, i1⟩ | ⟨z1, i1, rfl⟩ | ⟨z1, i1, rfl⟩
                all_goals
                  clear e1
                  rcases half_no e2 with ⟨rfl, j1, s1⟩ | ⟨y1, j1⟩ | ⟨y1, j1, s1, s2⟩
                  · obtain ⟨u1, u2⟩ := ne_nil s1
                    clear e2
                    go_wp2
                    refine wp_loop_rounds 3 ?_
                    rw [rounds_succ]
                    go_wp2_with (go_at_call 29; refine (withinAny _ _ _ _).mono ?_; rintro e w' ⟨rfl, rfl⟩)
                    rw [rounds_succ]
                    go_wp2_with (go_at_call 29; refine (withinAny _ _ _ _).mono ?_; rintro e w' ⟨rfl, rfl⟩)
                    go_ret
                    exact ⟨by rw [HR.out]; rfl, base_box HBL.out _⟩
                  · clear e2
                    go_wp2
                    refine wp_loop_rounds 3 ?_
                    rw [rounds_succ]
                    go_wp2_with (go_at_call 29; refine (withinAny _ _ _ _).mono ?_; rintro e w' ⟨rfl, rfl⟩)
                    rw [rounds_succ]
                    go_wp2_with (go_at_call 29; refine (withinAny _ _ _ _).mono ?_; rintro e w' ⟨rfl, rfl⟩)
                    go_ret
                    exact ⟨by rw [HR.out]; rfl, base_box HBL.out _⟩
                  · obtain ⟨u1, u2⟩ := ne_one s1
                    obtain ⟨u3, u4⟩ := ne_one s2
                    clear e2
                    go_wp2
                    refine wp_loop_rounds 3 ?_
                    rw [rounds_succ]
                    go_wp2_with (go_at_call 29; refine (withinAny _ _ _ _).mono ?_; rintro e w' ⟨rfl, rfl⟩)
                    rw [rounds_succ]
                    go_wp2_with (go_at_call 29; refine (withinAny _ _ _ _).mono ?_; rintro e w' ⟨rfl, rfl⟩)
                    go_ret
                    exact ⟨by rw [HR.out]; rfl, base_box HBL.out _⟩
              | true =>
                have HR := Lib.hid (HA3.out e2)
                clear HA2 HA3
                rcases half_yes e1 with ⟨rfl, rfl, i1⟩ | ⟨z1, i1, rfl⟩ | ⟨z1, i1, rfl⟩
                all_goals
                  clear e1
                  rcases half_yes e2 with ⟨rfl, rfl, j1⟩ | ⟨y1, j1, rfl⟩ | ⟨y1, j1, rfl⟩
                  all_goals
                    clear e2
                    go_wp2
                    refine wp_loop_rounds 3 ?_
                    rw [rounds_succ]
                    go_wp2_with (go_at_call 29; refine (withinAny _ _ _ _).mono ?_; rintro e w' ⟨rfl, rfl⟩)
                    rw [rounds_succ]
                    go_wp2_with (go_at_call 29; refine (withinAny _ _ _ _).mono ?_; rintro e w' ⟨rfl, rfl⟩)
                    rw [rounds_succ]
                    go_wp2
                    go_roundw
                    case rel =>
                      exact ⟨k + 1, by omega, by go_num, HR.out, base_box HBL.out _, HKP.out.box _⟩
                    case measure => simp [intOf]; omega
          · have HR := Lib.hid (HF6.out fun i hi => HG.out i (by omega))
            clear hbb hbd
            go_wp2
            go_ret
            exact ⟨by rw [HR.out]; rfl, HBL.out⟩
      · have HE := Lib.hid (HF3.out hqn)
        have e1 : ((q : Int) != (n : Int)) = true := by rw [bne_iff_ne]; omega
        subst hmn
        clear HF1 HF2 HF3 HF4 HF5 hbb hbd hqn
        go_enter Try.func10, Try.ntmps10
        go_wp2_with (go_at_call 29; refine (withinAny _ _ _ _).mono ?_; rintro e w' ⟨rfl, rfl⟩)
        go_ret
        exact ⟨by rw [HE.out]; rfl, HB0.out⟩
    · have HE := Lib.hid (HF2.out hmn)
      have e1 : ((m : Int) != (n : Int)) = true := by rw [bne_iff_ne]; omega
      clear HF1 HF2 HF3 HF4 HF5 hbb hbd hmn
      go_enter Try.func10, Try.ntmps10
      go_wp2_with (go_at_call 29; refine (withinAny _ _ _ _).mono ?_; rintro e w' ⟨rfl, rfl⟩)
      go_ret
      exact ⟨by rw [HE.out]; rfl, HB0.out⟩
end Go.Proofs.Ytiklpejcfdhdkaa.ScrImpl
