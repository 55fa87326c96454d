
/- What the model answers where it looks whether a relation that lies within another block is valid.
   Conditions: the relation is read as XRel's text says. -/
import Derived.Test.YtapiikkbeboidaaValid
namespace Go.Proofs.Ytapiikkbeboidaa.ValidAt
set_option linter.unusedVariables false
set_option linter.unusedSimpArgs false
open Go.RowKit Mem Rel Columns Valid

/-- In block bp, from the cell bo on, lies a relation's struct, which reads as r. -/
def RelPtrAt (w : World) (B bp bo : Nat) (r : R) : Prop :=
  ∃ va vn, w.cell? ⟨bp, bo, none⟩ = some (.int .i64 r.tapes) ∧ w.cell? ⟨bp, bo + 1, none⟩ = some (.int .i64 r.start) ∧ w.cell? ⟨bp, bo + 2, none⟩ = some va ∧ w.cell? ⟨bp, bo + 3, none⟩ = some vn ∧ Bools w B va r.accept ∧ IntRows w B vn r.next

set_option maxHeartbeats 2000000 in
theorem specFormAt_core (rt rs : Int) (ra : List Bool) (rn : List (List Int)) (n q : Nat) (HN : Hid (n = ra.length)) (HQ : Hid (q = rn.length)) (bp bo : Nat) (w : World) (B : Nat)
    (aa ab : Option Addr) (ca bb ob cb : Nat) (U : Nat → Value)
    (c0 : w.cell? ⟨bp, bo, none⟩ = some (.int .i64 rt)) (c1 : w.cell? ⟨bp, bo + 1, none⟩ = some (.int .i64 rs)) (c2 : w.cell? ⟨bp, bo + 2, none⟩ = some (.slice aa n ca)) (c3 : w.cell? ⟨bp, bo + 3, none⟩ = some (.slice ab q cb))
    (hma : n ≤ 9223372036854775807) (hmb : q ≤ 9223372036854775807) (hbb : 0 < q → ab = some ⟨bb, ob, none⟩) (hcb : ∀ i, i < q → w.cell? ⟨bb, ob + i, none⟩ = some (U i)) (hU : ∀ i, i < q → Ints w B (U i) (rn.getD i [])) :
    Calls Try.prog 38 #[.pointer (some ⟨bp, bo, none⟩)] w fun e w' => e = .returned (.bool (formB ⟨rt, rs, ra, rn⟩)) ∧ ∃ m, w' = w.drewN m := by
  have HF : Hid (formB ⟨rt, rs, ra, rn⟩ = (headB ⟨rt, rs, ra, rn⟩ && rn.all (rowOk (widthOf rt) n))) := Lib.hid (by rw [HN.out]; rfl)
  have HH : Hid (headB ⟨rt, rs, ra, rn⟩ = (inB rt 1 3 && decide (1 ≤ (n : Int)) && inB rs 0 (n - 1) && decide ((q : Int) = n))) := Lib.hid (by rw [HN.out, HQ.out]; rfl)
  by_cases g1 : 1 ≤ rt ∧ rt ≤ 3
  · have e1 : inB rt 1 3 = true := by simp [inB, g1]
    by_cases g2 : 1 ≤ (n : Int)
    · have d5 : decide ((n : Int) < 1) = false := by simp; omega
      by_cases g3 : 0 ≤ rs ∧ rs ≤ (n : Int) - 1
      · have e3 : inB rs 0 ((n : Int) - 1) = true := by simp [inB, g3]
        by_cases g4 : (q : Int) = n
        · have hqn : q = n := by omega
          subst hqn
          have HHT := Lib.hid (show headB ⟨rt, rs, ra, rn⟩ = true by rw [HH.out, e1, e3]; simp [g2])
          have HE2 := Lib.hid (show formB ⟨rt, rs, ra, rn⟩ = rn.all (rowOk (widthOf rt) q) by rw [HF.out, HHT.out]; rfl)
          clear HF HH HHT g4
          obtain ⟨hW0, hW1⟩ := width_bounds rt
          obtain ⟨r1, r3⟩ := g1
          go_enter Try.func38, Try.ntmps38
          go_wp2_with (go_at_call 41; refine (inRange _ _ _ _).mono ?_; rintro e w' ⟨rfl, rfl⟩)
          go_loopw [4, 5] (fun i _ wr => ∃ k m : Nat, k ≤ q ∧ i = .int .i64 k ∧ (rn.take k).all (rowOk (widthOf rt) q) = true ∧ wr = w.drewN m) (fun i _ _ => q - (intOf i).toNat)
          case atStart => exact ⟨0, 0, Nat.zero_le _, rfl, rfl, rfl⟩
          case round =>
            obtain ⟨k, m, hk, rfl, hg, rfl⟩ := hrel
            have HG := Lib.hid hg
            clear hg
            by_cases hlt : k < q
            · obtain rfl := hbb (by omega)
              have cH := hcb k hlt
              have hUk := hU k hlt
              obtain ⟨x, hx⟩ : ∃ x, x = rn.getD k [] := ⟨_, rfl⟩
              obtain ⟨u, hu⟩ : ∃ u, u = U k := ⟨_, rfl⟩
              rw [← hu] at cH hUk
              rw [← hx] at hUk
              obtain ⟨ax, bx, ox, cx, hux, hmx, hxx, hcx⟩ := hUk
              obtain ⟨p, hp⟩ : ∃ p, p = x.length := ⟨_, rfl⟩
              rw [← hp] at hux hmx hxx hcx
              rw [hux] at cH
              unfold maxLen at hmx
              have HP := Lib.hid hp
              have HX := Lib.hid hx
              clear hx hu hux hp hcb hU
              have HC := Lib.hid (fun z => (wideAny rt r1 r3 (w.drewN z)).mono fun e w' (h : e = .returned (.int .i64 (widthOf rt)) ∧ w.drewN z = w') => (⟨h.1, 0, h.2.symm⟩ : e = .returned (.int .i64 (widthOf rt)) ∧ ∃ n, w' = (w.drewN z).drewN n))
              obtain ⟨W, hW⟩ : ∃ W, W = widthOf rt := ⟨_, rfl⟩
              rw [← hW] at HC hW0 hW1 HE2 HG
              have HW := Lib.hid hW
              rw [← hW]
              clear hW
              by_cases hl : (p : Int) = W
              · have hl1 : ((p : Int) != W) = false := by simp [hl]
                have HPW := Lib.hid hl
                clear hl
                go_wp2
                go_quiet ((go_at_call 42; exact quiet_drewN HC.out))
                go_wp2
                rw [World.drewN_drewN]
                go_loop [5] (fun j => ∃ l : Nat, l ≤ p ∧ j = .int .i64 l ∧ (x.take l).all (entryOk q) = true) (fun j => p - (intOf j).toNat)
                case atStart => exact ⟨0, Nat.zero_le _, rfl, rfl⟩
                case round =>
                  obtain ⟨l, hl, rfl, hgl⟩ := hrel
                  have HGL := Lib.hid hgl
                  clear hgl
                  by_cases hlp : l < p
                  · obtain rfl := (hxx (by omega)).1
                    have cY := hcx l hlp
                    obtain ⟨y, hy⟩ : ∃ y, y = x.getD l 0 := ⟨_, rfl⟩
                    rw [← hy] at cY
                    have HY := Lib.hid hy
                    clear hy hcx
                    by_cases ho : entryOk q y = true
                    · have hin : inB y 0 ((q : Int) - 1) = true := ho
                      have HA := Lib.hid (all_take_succ x 0 (entryOk q) l (by rw [← HP.out]; exact hlp) HGL.out (by rw [← HY.out]; exact ho))
                      clear ho
                      go_wp2_with (go_at_call 41; refine (inRange _ _ _ _).mono ?_; rintro e w' ⟨rfl, rfl⟩)
                      go_round
                      case rel => exact ⟨l + 1, by omega, by go_num, HA.out⟩
                      case measure => simp [intOf]; omega
                    · have hin : inB y 0 ((q : Int) - 1) = false := by simpa [entryOk] using ho
                      have HA := Lib.hid (show formB ⟨rt, rs, ra, rn⟩ = false by
                        rw [HE2.out]
                        refine all_false rn [] _ k (by rw [← HQ.out]; exact hlt) ?_
                        rw [← HX.out]
                        unfold rowOk
                        rw [all_false x 0 (entryOk q) l (by rw [← HP.out]; exact hlp) (by rw [← HY.out]; simpa using ho)]
                        simp)
                      clear ho
                      go_wp2_with (go_at_call 41; refine (inRange _ _ _ _).mono ?_; rintro e w' ⟨rfl, rfl⟩)
                      go_ret
                      exact ⟨by rw [HA.out]; rfl, _, rfl⟩
                  · have HA := Lib.hid (all_take_succ rn [] (rowOk W q) k (by rw [← HQ.out]; exact hlt) HG.out (by
                      rw [← HX.out]
                      unfold rowOk
                      rw [all_end x (entryOk q) l (by rw [← HP.out]; omega) HGL.out, ← HP.out, decide_eq_true HPW.out]
                      rfl))
                    clear hcx hxx
                    go_wp2
                    go_roundw
                    case rel => exact ⟨k + 1, _, by omega, by go_num, HA.out, rfl⟩
                    case measure => simp [intOf]; omega
              · have hl1 : ((p : Int) != W) = true := by rw [bne_iff_ne]; exact hl
                have HS := Lib.hid (show formB ⟨rt, rs, ra, rn⟩ = false by
                  rw [HE2.out]
                  refine all_false rn [] _ k (by rw [← HQ.out]; exact hlt) ?_
                  rw [← HX.out]
                  unfold rowOk
                  rw [← HP.out, decide_eq_false hl]
                  rfl)
                clear hl hcx hxx
                go_wp2
                go_quiet ((go_at_call 42; exact quiet_drewN HC.out))
                go_wp2
                go_ret
                exact ⟨by rw [HS.out]; rfl, _, World.drewN_drewN ..⟩
            · have HA := Lib.hid (show formB ⟨rt, rs, ra, rn⟩ = true by rw [HE2.out]; exact all_end rn _ k (by rw [← HQ.out]; omega) HG.out)
              clear hcb hU
              go_wp2
              go_ret
              exact ⟨by rw [HA.out]; rfl, _, rfl⟩
        · have HE := Lib.hid (show formB ⟨rt, rs, ra, rn⟩ = false by rw [HF.out, HH.out]; simp [g4])
          have d4 : ((q : Int) != (n : Int)) = true := by rw [bne_iff_ne]; exact g4
          clear HF HH g3 g4 HN HQ hU hcb
          go_enter Try.func38, Try.ntmps38
          go_wp2_with (go_at_call 41; refine (inRange _ _ _ _).mono ?_; rintro e w' ⟨rfl, rfl⟩)
          go_ret
          exact ⟨by rw [HE.out]; rfl, 0, rfl⟩
      · have HE := Lib.hid (show formB ⟨rt, rs, ra, rn⟩ = false by rw [HF.out, HH.out]; simp [inB, g3])
        have e3 : inB rs 0 ((n : Int) - 1) = false := by simp [inB]; omega
        clear HF HH g3 HN HQ hU hcb
        go_enter Try.func38, Try.ntmps38
        go_wp2_with (go_at_call 41; refine (inRange _ _ _ _).mono ?_; rintro e w' ⟨rfl, rfl⟩)
        go_ret
        exact ⟨by rw [HE.out]; rfl, 0, rfl⟩
    · have HE := Lib.hid (show formB ⟨rt, rs, ra, rn⟩ = false by rw [HF.out, HH.out]; simp [g2])
      have d5 : decide ((n : Int) < 1) = true := by simp; omega
      clear HF HH g2 HN HQ hU hcb
      go_enter Try.func38, Try.ntmps38
      go_wp2_with (go_at_call 41; refine (inRange _ _ _ _).mono ?_; rintro e w' ⟨rfl, rfl⟩)
      go_ret
      exact ⟨by rw [HE.out]; rfl, 0, rfl⟩
  · have e1 : inB rt 1 3 = false := by simp [inB]; omega
    have HE := Lib.hid (show formB ⟨rt, rs, ra, rn⟩ = false by rw [HF.out, HH.out, e1]; simp)
    clear HF HH g1 HN HQ hU hcb
    go_enter Try.func38, Try.ntmps38
    go_wp2_with (go_at_call 41; refine (inRange _ _ _ _).mono ?_; rintro e w' ⟨rfl, rfl⟩)
    go_ret
    exact ⟨by rw [HE.out]; rfl, 0, rfl⟩

theorem specFormAt (r : R) (bp bo : Nat) (w : World) (B : Nat) (h : RelPtrAt w B bp bo r) :
    Calls Try.prog 38 #[.pointer (some ⟨bp, bo, none⟩)] w fun e w' => e = .returned (.bool (formB r)) ∧ ∃ m, w' = w.drewN m := by
  obtain ⟨va, vn, c0, c1, c2, c3, ⟨aa, ba, oa, ca, rfl, hma, -, -⟩, ⟨U, ⟨ab, bb, ob, cb, rfl, hmb, hbb, hcb⟩, hU⟩⟩ := h
  exact specFormAt_core r.tapes r.start r.accept r.next _ _ (Lib.hid rfl) (Lib.hid rfl) bp bo w B aa ab ca bb ob cb U c0 c1 c2 c3 hma hmb (fun h => (hbb h).1) hcb hU

set_option maxHeartbeats 400000 in
theorem specOkAt (r : R) (bp bo : Nat) (w : World) (B : Nat) (h : RelPtrAt w B bp bo r) :
    Calls Try.prog 25 #[.pointer (some ⟨bp, bo, none⟩)] w fun e w' => e = .returned (.bool (okB r)) ∧ ∃ m, w' = w.drewN m := by
  have HC := Lib.hid (specFormAt r bp bo w B h)
  obtain ⟨va, vn, -, -, c2, -, ⟨aa, ba, oa, ca, rfl, hma, -, -⟩, -⟩ := h
  unfold maxLen at hma
  obtain ⟨n, hn⟩ : ∃ n, n = r.accept.length := ⟨_, rfl⟩
  rw [← hn] at c2 hma
  have HN := Lib.hid hn
  clear hn
  by_cases hl : (n : Int) ≤ 150
  · have E := Lib.hid (show okB r = formB r by unfold okB; rw [← HN.out, decide_eq_true hl]; rfl)
    have d1 : decide ((n : Int) ≤ 150) = true := by simpa using hl
    obtain ⟨F, hF⟩ : ∃ F, F = formB r := ⟨_, rfl⟩
    rw [← hF] at HC E
    clear hF
    go_enter Try.func25, Try.ntmps25
    go_wp2_with (go_at_call 38; refine (HC.out).mono ?_; rintro e w' ⟨rfl, n1, rfl⟩)
    go_ret
    exact ⟨by rw [E.out]; rfl, _, rfl⟩
  · have E := Lib.hid (show okB r = false by unfold okB; rw [← HN.out, decide_eq_false hl]; rfl)
    have d1 : decide ((n : Int) ≤ 150) = false := by simpa using hl
    go_enter Try.func25, Try.ntmps25
    go_wp2_with fail
    go_ret
    exact ⟨by rw [E.out]; rfl, 0, rfl⟩

end Go.Proofs.Ytapiikkbeboidaa.ValidAt
