
/- Whether a transducer is valid, by the program; and the two functions that are called with a struct.
   Conditions: the transducer is read as XEdg's text says. -/
import Derived.Test.YtjoiaenkmmmmpaaTrValid
namespace Go.Proofs.Ytjoiaenkmmmmpaa.TrImplValid
set_option linter.unusedVariables false
set_option linter.unusedSimpArgs false
open Go.RowKit Mem Rel Edg EdgEq EdgCopy Columns WordMath Word TrValid

theorem specValid (v : Value) (t : T) (w : World) (B : Nat) (h : TrAt w B v t) (hB : B ≤ w.heap.size) :
    Calls Try.prog 13 #[v] w fun e w' => e = .returned (.bool (okT t)) ∧ Below w.heap.size w w' := by
  obtain ⟨va, vn, rfl, hacc, hed⟩ := h
  obtain ⟨o, ho⟩ : ∃ o : Obj, o = .cells #[.int .i64 t.start, va, vn] 30 := ⟨_, rfl⟩
  have hb : Below w.heap.size w (w.alloc o) := (Below.refl _ _).alloc (Nat.le_refl _) _
  have HP := Lib.hid (specOk t va vn w.heap.size (w.alloc o) B ⟨by rw [ho]; exact Kept3.new _ _ _ _ _, hacc.below hb hB, hed.below hb hB⟩)
  have HB := Lib.hid hb
  clear hb hacc hed
  go_enter Try.func13, Try.ntmps13
  go_wp2_with fail
  rw [← ho]
  clear ho
  refine HP.out.mono ?_
  rintro e w' ⟨rfl, rfl⟩
  go_wp2
  go_ret
  exact ⟨rfl, HB.out⟩

theorem letB_long {s : ByteArray} (h : 1 < (s.size : Int)) : letB s = false := by unfold letB; rw [decide_eq_false (by omega)]; rfl
theorem letB_short {s : ByteArray} (h : ¬ 1 < (s.size : Int)) : letB s = wordB s := by unfold letB; rw [decide_eq_true (by omega)]; rfl

set_option maxHeartbeats 4000000 in
theorem implValid (v : Value) (t : T) (w : World) (B : Nat) (h : TrAt w B v t) (hB : B ≤ w.heap.size) :
    Calls Try.prog 15 #[v] w fun e w' => e = .returned (.bool (okT t)) ∧ Below w.heap.size w w' := by
  obtain ⟨ts, ta, te⟩ := t
  obtain ⟨va, vn, rfl, hacc, hed⟩ := h
  simp only at hacc hed ⊢
  obtain ⟨aa, ba, oa, ca, rfl, hma, -, -⟩ := hacc
  obtain ⟨ab, bb, ob, cb, rfl, hmb, hbb, hcb⟩ := hed
  unfold maxLen at hma hmb
  obtain ⟨n, hn⟩ : ∃ n, n = ta.length := ⟨_, rfl⟩
  obtain ⟨q, hq⟩ : ∃ q, q = te.length := ⟨_, rfl⟩
  have HO := Lib.hid (show okT ⟨ts, ta, te⟩ = (decide ((n : Int) ≤ 40) && decide ((q : Int) ≤ 200) && (inB ts 0 ((n : Int) - 1) && te.all (edgeOk n))) by unfold okT formT; rw [hn, hq])
  rw [← hn] at hma
  rw [← hq] at hmb hbb hcb
  rw [← hn, ← hq]
  have HQ := Lib.hid hq
  have HC := Lib.hid hcb
  have HBB := Lib.hid hB
  clear hn hq hcb
  have HB0 := Lib.hid (base_box (Below.refl _ w) (.cells #[.int .i64 ts, .slice aa n ca, .slice ab q cb] 30))
  cases g1 : inB (n : Int) 1 40 with
  | false =>
    have HE := Lib.hid (show okT ⟨ts, ta, te⟩ = false by
      rw [HO.out]
      by_cases h : (n : Int) ≤ 40
      · have h0 : inB ts 0 ((n : Int) - 1) = false := by unfold inB at g1 ⊢; simp at g1 ⊢; omega
        rw [h0]; simp
      · rw [decide_eq_false h]; simp)
    clear HO
    go_enter Try.func15, Try.ntmps15
    go_wp2_with (go_at_call 40; refine (withinAny _ _ _ _).mono ?_; rintro e w' ⟨rfl, rfl⟩)
    go_ret
    exact ⟨by rw [HE.out]; rfl, HB0.out⟩
  | true =>
    have hn1 : 1 ≤ (n : Int) ∧ (n : Int) ≤ 40 := by unfold inB at g1; simpa using g1
    obtain ⟨hn0, hn40⟩ := hn1
    by_cases g2 : 200 < (q : Int)
    · have d2 : decide (200 < (q : Int)) = true := by simpa using g2
      have HE := Lib.hid (show okT ⟨ts, ta, te⟩ = false by rw [HO.out, decide_eq_false (show ¬ (q : Int) ≤ 200 by omega)]; simp)
      clear HO
      go_enter Try.func15, Try.ntmps15
      go_wp2_with (go_at_call 40; refine (withinAny _ _ _ _).mono ?_; rintro e w' ⟨rfl, rfl⟩)
      go_ret
      exact ⟨by rw [HE.out]; rfl, HB0.out⟩
    · have d2 : decide (200 < (q : Int)) = false := by simpa using g2
      cases g3 : inB ts 0 ((n : Int) - 1) with
      | false =>
        have HE := Lib.hid (show okT ⟨ts, ta, te⟩ = false by rw [HO.out, g3]; simp)
        clear HO
        go_enter Try.func15, Try.ntmps15
        go_wp2_with (go_at_call 40; refine (withinAny _ _ _ _).mono ?_; rintro e w' ⟨rfl, rfl⟩)
        go_ret
        exact ⟨by rw [HE.out]; rfl, HB0.out⟩
      | true =>
        have HE := Lib.hid (show okT ⟨ts, ta, te⟩ = te.all (edgeOk n) by rw [HO.out, g3, decide_eq_true (show (n : Int) ≤ 40 by omega), decide_eq_true (show (q : Int) ≤ 200 by omega)]; rfl)
        clear HO
        go_enter Try.func15, Try.ntmps15
        go_wp2_with (go_at_call 40; refine (withinAny _ _ _ _).mono ?_; rintro e w' ⟨rfl, rfl⟩)
        go_loopw [29] (fun i wr => ∃ k : Nat, k ≤ q ∧ i = .int .i64 k ∧ (te.take k).all (edgeOk n) = true ∧ Below w.heap.size w wr) (fun i _ => q - (intOf i).toNat)
        case atStart => exact ⟨0, Nat.zero_le _, rfl, rfl, HB0.out⟩
        case round =>
          obtain ⟨k, hk, rfl, hg, hbel⟩ := hrel
          have HG := Lib.hid hg
          have HBL := Lib.hid hbel
          clear hg hbel g1 d2 g3
          by_cases hlt : k < q
          · obtain rfl := (hbb (by omega)).1
            have hbB := (hbb (by omega)).2
            have h4 := ((HC.out k hlt).1).below HBL.out (by have := HBB.out; omega)
            have hfit := (HC.out k hlt).2
            obtain ⟨x, hx⟩ : ∃ x, x = te.getD k noE := ⟨_, rfl⟩
            rw [← hx] at h4 hfit
            have HX := Lib.hid hx
            clear hx hbb
            obtain ⟨c0, c1, c2, c3⟩ := h4
            have HO := Lib.hid (show edgeOk n x = (inB x.src 0 ((n : Int) - 1) && inB x.dst 0 ((n : Int) - 1) && letB x.inn && letB x.out) from rfl)
            have HNO := Lib.hid (fun h : edgeOk n x = false => (show okT ⟨ts, ta, te⟩ = false by rw [HE.out]; exact all_not te n k (by rw [← HQ.out]; exact hlt) (by rw [← HX.out]; exact h)))
            have HYES := Lib.hid (fun h : edgeOk n x = true => all_next te n k (by rw [← HQ.out]; exact hlt) HG.out (by rw [← HX.out]; exact h))
            clear HX
            obtain ⟨xs, xd, xi, xo⟩ := x
            obtain ⟨f1, f2⟩ := hfit
            simp only at c0 c1 c2 c3 HO f1 f2
            have HF1 := Lib.hid f1
            have HF2 := Lib.hid f2
            unfold maxLen at f1 f2
            have HB1 := Lib.hid (HBL.out.alloc (Nat.le_trans (Nat.le_refl _) HBL.out.size) (.cells #[.int .i64 xs, .int .i64 xd, .string xi, .string xo] 50))
            have HD1 : ∀ b : Bool, decide (1 < (xi.size : Int)) = b → (b = true ∨ b = false) := fun b _ => by cases b <;> simp
            clear HD1
            cases e1 : inB xs 0 ((n : Int) - 1) with
            | false =>
              have HR := Lib.hid (HNO.out (by rw [HO.out, e1]; rfl))
              go_wp2_with (first | (go_at_call 40; refine (withinAny _ _ _ _).mono ?_; rintro e w' ⟨rfl, rfl⟩))
              go_ret
              exact ⟨by rw [HR.out]; rfl, HB1.out⟩
            | true =>
              cases e2 : inB xd 0 ((n : Int) - 1) with
              | false =>
                have HR := Lib.hid (HNO.out (by rw [HO.out, e1, e2]; rfl))
                go_wp2_with (first | (go_at_call 40; refine (withinAny _ _ _ _).mono ?_; rintro e w' ⟨rfl, rfl⟩))
                go_ret
                exact ⟨by rw [HR.out]; rfl, HB1.out⟩
              | true =>
                by_cases l1 : 1 < (xi.size : Int)
                · have d3 : decide (1 < (xi.size : Int)) = true := by simpa using l1
                  have HR := Lib.hid (HNO.out (by rw [HO.out, e1, e2, letB_long l1]; rfl))
                  go_wp2_with (first | (go_at_call 40; refine (withinAny _ _ _ _).mono ?_; rintro e w' ⟨rfl, rfl⟩))
                  go_ret
                  exact ⟨by rw [HR.out]; rfl, HB1.out⟩
                · have d3 : decide (1 < (xi.size : Int)) = false := by simpa using l1
                  by_cases l2 : 1 < (xo.size : Int)
                  · have d4 : decide (1 < (xo.size : Int)) = true := by simpa using l2
                    have HR := Lib.hid (HNO.out (by rw [HO.out, e1, e2, letB_long l2]; simp))
                    go_wp2_with (first | (go_at_call 40; refine (withinAny _ _ _ _).mono ?_; rintro e w' ⟨rfl, rfl⟩))
                    go_ret
                    exact ⟨by rw [HR.out]; rfl, HB1.out⟩
                  · have d4 : decide (1 < (xo.size : Int)) = false := by simpa using l2
                    have HL1 := Lib.hid (letB_short l1)
                    have HL2 := Lib.hid (letB_short l2)
                    cases e3 : wordB xi with
                    | false =>
                      have HR := Lib.hid (HNO.out (by rw [HO.out, e1, e2, HL1.out, e3]; rfl))
                      go_wp2_with (first | (go_at_call 40; refine (withinAny _ _ _ _).mono ?_; rintro e w' ⟨rfl, rfl⟩) | (go_at_call 41; refine (implWord xi _ HF1.out).mono ?_; rw [e3]; rintro e w' ⟨rfl, rfl⟩))
                      go_ret
                      exact ⟨by rw [HR.out]; rfl, HB1.out⟩
                    | true =>
                      cases e4 : wordB xo with
                      | false =>
                        have HR := Lib.hid (HNO.out (by rw [HO.out, e1, e2, HL1.out, HL2.out, e3, e4]; rfl))
                        go_wp2_with (first | (go_at_call 40; refine (withinAny _ _ _ _).mono ?_; rintro e w' ⟨rfl, rfl⟩) | (go_at_call 41; refine (implWord _ _ (by first | exact HF1.out | exact HF2.out)).mono ?_; rintro e w' ⟨rfl, rfl⟩))
                        go_ret
                        exact ⟨by rw [HR.out]; rfl, HB1.out⟩
                      | true =>
                        have HR := Lib.hid (HYES.out (by rw [HO.out, e1, e2, HL1.out, HL2.out, e3, e4]; rfl))
                        go_wp2_with (first | (go_at_call 40; refine (withinAny _ _ _ _).mono ?_; rintro e w' ⟨rfl, rfl⟩) | (go_at_call 41; refine (implWord _ _ (by first | exact HF1.out | exact HF2.out)).mono ?_; rintro e w' ⟨rfl, rfl⟩))
                        go_roundw
                        case rel => exact ⟨k + 1, by omega, by go_num, HR.out, HB1.out⟩
                        case measure => simp [intOf]; omega
          · have HR := Lib.hid (show okT ⟨ts, ta, te⟩ = true by rw [HE.out]; exact all_yes te n k (by rw [← HQ.out]; omega) HG.out)
            clear hbb
            go_wp2
            go_ret
            exact ⟨by rw [HR.out]; rfl, HBL.out⟩
end Go.Proofs.Ytjoiaenkmmmmpaa.TrImplValid
