
/- What the program answers where it looks whether a relation is valid.
   Conditions: the relation is read as XRel's text says. -/
import Derived.Test.YtcpcbmappcndcaaDoorFX6
import Derived.Test.YtcpcbmappcndcaaDoorFX20
import Derived.Test.YtcpcbmappcndcaaDoorFX19
namespace Go.Proofs.YtcpcbmappcndcaaDoor.ValidImpl
set_option linter.unusedVariables false
set_option linter.unusedSimpArgs false
open Go.RowKit Mem Rel Columns Valid

theorem okB_eq (r : R) : okB r = (inB r.tapes 1 3 && decide (1 ≤ (r.next.length : Int)) && decide ((r.next.length : Int) ≤ 150) && decide ((r.accept.length : Int) = r.next.length) &&
    decide (0 ≤ r.start) && decide (r.start < r.next.length) && r.next.all (rowOk (widthOf r.tapes) r.next.length)) := by
  unfold okB formB headB
  by_cases h : (r.accept.length : Int) = r.next.length
  · rw [h]
    by_cases a : (1 : Int) ≤ r.next.length <;> by_cases b : (r.next.length : Int) ≤ 150 <;> by_cases c : 0 ≤ r.start <;> by_cases d : r.start < r.next.length <;> cases inB r.tapes 1 3 <;>
      simp [inB, a, b, c, d] <;> omega
  · have h' : ¬ (r.next.length : Int) = r.accept.length := fun e => h e.symm
    simp [h, h']

set_option maxHeartbeats 2000000 in
theorem implValid_core (rt rs : Int) (ra : List Bool) (rn : List (List Int)) (n q : Nat) (HN : Hid (n = ra.length)) (HQ : Hid (q = rn.length)) (w : World) (B : Nat)
    (aa ab : Option Addr) (ca bb ob cb : Nat) (U : Nat → Value) (O : Obj) (hO : Hid (O = .cells #[.int .i64 rt, .int .i64 rs, .slice aa n ca, .slice ab q cb] 27))
    (hma : n ≤ 9223372036854775807) (hmb : q ≤ 9223372036854775807) (hbb : 0 < q → ab = some ⟨bb, ob, none⟩) (hcb : ∀ i, i < q → (w.alloc O).cell? ⟨bb, ob + i, none⟩ = some (U i)) (hU : ∀ i, i < q → Ints (w.alloc O) B (U i) (rn.getD i [])) :
    Calls Tryd.prog 29 #[.agg #[.int .i64 rt, .int .i64 rs, .slice aa n ca, .slice ab q cb]] w fun e w' => e = .returned (.bool (okB ⟨rt, rs, ra, rn⟩)) ∧ w.alloc O = w' := by
  have HF : Hid (okB ⟨rt, rs, ra, rn⟩ = (inB rt 1 3 && decide (1 ≤ (q : Int)) && decide ((q : Int) ≤ 150) && decide ((n : Int) = q) && decide (0 ≤ rs) && decide (rs < q) && rn.all (rowOk (widthOf rt) q))) := Lib.hid (by rw [HN.out, HQ.out]; exact okB_eq ⟨rt, rs, ra, rn⟩)
  obtain rfl := hO.out
  clear hO
  by_cases g1 : 1 ≤ rt ∧ rt ≤ 3
  · have d1 : decide (1 ≤ rt ∧ rt ≤ 3) = true := by simpa using g1
    by_cases g2 : 1 ≤ (q : Int)
    · have d2 : decide ((q : Int) < 1) = false := by simp; omega
      by_cases g3 : (q : Int) ≤ 150
      · have d3 : decide (150 < (q : Int)) = false := by simp; omega
        by_cases g4 : (n : Int) = q
        · have hqn : n = q := by omega
          subst hqn
          have d4 : ((n : Int) != (n : Int)) = false := by simp
          by_cases g5 : 0 ≤ rs
          · have d5 : decide (rs < 0) = false := by simp; omega
            by_cases g6 : rs < n
            · have d6 : decide ((n : Int) ≤ rs) = false := by simp; omega
              have HE2 := Lib.hid (show okB ⟨rt, rs, ra, rn⟩ = rn.all (rowOk (widthOf rt) n) by rw [HF.out]; simp [inB, g1, g2, g3, g5, g6])
              clear HF g4
              obtain ⟨hW0, hW1⟩ := width_bounds rt
              have r1 := g1.1
              have r3 := g1.2
              clear g1
              go_enter Tryd.func29, Tryd.ntmps29
              go_wp2_with (go_at_call 54; refine (validTapes _ _).mono ?_; rw [d1]; rintro e w' ⟨rfl, rfl⟩)
              clear d1 d2 d3 d5 d6
              go_loop [42] (fun i => ∃ k : Nat, k ≤ n ∧ i = .int .i64 k ∧ (rn.take k).all (rowOk (widthOf rt) n) = true) (fun i => n - (intOf i).toNat)
              case atStart => exact ⟨0, Nat.zero_le _, rfl, rfl⟩
              case round =>
                obtain ⟨k, hk, rfl, hg⟩ := hrel
                have HG := Lib.hid hg
                clear hg
                by_cases hlt : k < n
                · obtain rfl := hbb (by omega)
                  have cH := hcb k hlt
                  have hUk := hU k hlt
                  obtain ⟨x, hx⟩ : ∃ x, x = rn.getD k [] := ⟨_, rfl⟩
                  obtain ⟨u, hu⟩ : ∃ u, u = U k := ⟨_, rfl⟩
                  rw [← hu] at cH hUk
                  rw [← hx] at hUk
                  obtain ⟨ax, bx, ox, cx, hux, hmx, hxx, hcx⟩ := hUk
                  obtain ⟨p, hp⟩ : ∃ p, p = x.length := ⟨_, rfl⟩
                  rw [← hp] at hux hmx hxx hcx
                  rw [hux] at cH
                  unfold maxLen at hmx
                  have HP := Lib.hid hp
                  have HX := Lib.hid hx
                  clear hx hu hux hp hcb hU
                  have HC := Lib.hid (countAny rt r1 r3)
                  obtain ⟨W, hW⟩ : ∃ W, W = widthOf rt := ⟨_, rfl⟩
                  rw [← hW] at HC hW0 hW1 HE2 HG
                  have HW := Lib.hid hW
                  rw [← hW]
                  clear hW
                  by_cases hl : (p : Int) = W
                  · have hl1 : ((p : Int) != W) = false := by simp [hl]
                    have HPW := Lib.hid hl
                    clear hl
                    go_wp2_with (go_at_call 55; refine (HC.out _).mono ?_; rintro e w' ⟨rfl, rfl⟩)
                    go_loop [54] (fun j => ∃ l : Nat, l ≤ p ∧ j = .int .i64 l ∧ (x.take l).all (entryOk n) = true) (fun j => p - (intOf j).toNat)
                    case atStart => exact ⟨0, Nat.zero_le _, rfl, rfl⟩
                    case round =>
                      obtain ⟨l, hl, rfl, hgl⟩ := hrel
                      have HGL := Lib.hid hgl
                      clear hgl
                      by_cases hlp : l < p
                      · obtain rfl := (hxx (by omega)).1
                        have cY := hcx l hlp
                        obtain ⟨y, hy⟩ : ∃ y, y = x.getD l 0 := ⟨_, rfl⟩
                        rw [← hy] at cY
                        have HY := Lib.hid hy
                        clear hy hcx
                        by_cases ho : entryOk n y = true
                        · have HA := Lib.hid (all_take_succ x 0 (entryOk n) l (by rw [← HP.out]; exact hlp) HGL.out (by rw [← HY.out]; exact ho))
                          have ho' : 0 ≤ y ∧ y ≤ (n : Int) - 1 := by simpa [entryOk, inB] using ho
                          have t1 : decide (y < 0) = false := by simp; omega
                          have t2 : decide ((n : Int) ≤ y) = false := by simp; omega
                          clear ho ho'
                          go_wp2
                          go_round
                          case rel => exact ⟨l + 1, by omega, by go_num, HA.out⟩
                          case measure => simp [intOf]; omega
                        · have ho' : ¬ (0 ≤ y ∧ y ≤ (n : Int) - 1) := by simpa [entryOk, inB] using ho
                          have HA := Lib.hid (show okB ⟨rt, rs, ra, rn⟩ = false by
                            rw [HE2.out]
                            refine all_false rn [] _ k (by rw [← HQ.out]; exact hlt) ?_
                            rw [← HX.out]
                            unfold rowOk
                            rw [all_false x 0 (entryOk n) l (by rw [← HP.out]; exact hlp) (by rw [← HY.out]; simpa using ho)]
                            simp)
                          clear ho
                          by_cases hy0 : y < 0
                          · have t1 : decide (y < 0) = true := by simpa using hy0
                            go_wp2
                            go_ret
                            exact ⟨by rw [HA.out]; rfl, rfl⟩
                          · have t1 : decide (y < 0) = false := by simpa using hy0
                            have t2 : decide ((n : Int) ≤ y) = true := by simp; omega
                            go_wp2
                            go_ret
                            exact ⟨by rw [HA.out]; rfl, rfl⟩
                      · have HA := Lib.hid (all_take_succ rn [] (rowOk W n) k (by rw [← HQ.out]; exact hlt) HG.out (by
                          rw [← HX.out]
                          unfold rowOk
                          rw [all_end x (entryOk n) l (by rw [← HP.out]; omega) HGL.out, ← HP.out, decide_eq_true HPW.out]
                          rfl))
                        clear hcx hxx
                        go_wp2
                        go_round
                        case rel => exact ⟨k + 1, by omega, by go_num, HA.out⟩
                        case measure => simp [intOf]; omega
                  · have hl1 : ((p : Int) != W) = true := by rw [bne_iff_ne]; exact hl
                    have HS := Lib.hid (show okB ⟨rt, rs, ra, rn⟩ = false by
                      rw [HE2.out]
                      refine all_false rn [] _ k (by rw [← HQ.out]; exact hlt) ?_
                      rw [← HX.out]
                      unfold rowOk
                      rw [← HP.out, decide_eq_false hl]
                      rfl)
                    clear hl hcx hxx
                    go_wp2_with (go_at_call 55; refine (HC.out _).mono ?_; rintro e w' ⟨rfl, rfl⟩)
                    go_ret
                    exact ⟨by rw [HS.out]; rfl, rfl⟩
                · have HA := Lib.hid (show okB ⟨rt, rs, ra, rn⟩ = true by rw [HE2.out]; exact all_end rn _ k (by rw [← HQ.out]; omega) HG.out)
                  clear hcb hU
                  go_wp2
                  go_ret
                  exact ⟨by rw [HA.out]; rfl, rfl⟩
            · have HE := Lib.hid (show okB ⟨rt, rs, ra, rn⟩ = false by rw [HF.out]; simp [g6])
              have d6 : decide ((n : Int) ≤ rs) = true := by simp; omega
              clear HF HN HQ hU hcb g1 g6
              go_enter Tryd.func29, Tryd.ntmps29
              go_wp2_with (go_at_call 54; refine (validTapes _ _).mono ?_; rw [d1]; rintro e w' ⟨rfl, rfl⟩)
              go_ret
              exact ⟨by rw [HE.out]; rfl, rfl⟩
          · have HE := Lib.hid (show okB ⟨rt, rs, ra, rn⟩ = false by rw [HF.out]; simp [g5])
            have d5 : decide (rs < 0) = true := by simp; omega
            clear HF HN HQ hU hcb g1 g5
            go_enter Tryd.func29, Tryd.ntmps29
            go_wp2_with (go_at_call 54; refine (validTapes _ _).mono ?_; rw [d1]; rintro e w' ⟨rfl, rfl⟩)
            go_ret
            exact ⟨by rw [HE.out]; rfl, rfl⟩
        · have HE := Lib.hid (show okB ⟨rt, rs, ra, rn⟩ = false by rw [HF.out]; simp [g4])
          have d4 : ((n : Int) != (q : Int)) = true := by rw [bne_iff_ne]; exact g4
          clear HF HN HQ hU hcb g1 g4
          go_enter Tryd.func29, Tryd.ntmps29
          go_wp2_with (go_at_call 54; refine (validTapes _ _).mono ?_; rw [d1]; rintro e w' ⟨rfl, rfl⟩)
          go_ret
          exact ⟨by rw [HE.out]; rfl, rfl⟩
      · have HE := Lib.hid (show okB ⟨rt, rs, ra, rn⟩ = false by rw [HF.out]; simp [g3])
        have d3 : decide (150 < (q : Int)) = true := by simp; omega
        clear HF HN HQ hU hcb g1 g3
        go_enter Tryd.func29, Tryd.ntmps29
        go_wp2_with (go_at_call 54; refine (validTapes _ _).mono ?_; rw [d1]; rintro e w' ⟨rfl, rfl⟩)
        go_ret
        exact ⟨by rw [HE.out]; rfl, rfl⟩
    · have HE := Lib.hid (show okB ⟨rt, rs, ra, rn⟩ = false by rw [HF.out]; simp [g2])
      have d2 : decide ((q : Int) < 1) = true := by simp; omega
      clear HF HN HQ hU hcb g1 g2
      go_enter Tryd.func29, Tryd.ntmps29
      go_wp2_with (go_at_call 54; refine (validTapes _ _).mono ?_; rw [d1]; rintro e w' ⟨rfl, rfl⟩)
      go_ret
      exact ⟨by rw [HE.out]; rfl, rfl⟩
  · have d1 : decide (1 ≤ rt ∧ rt ≤ 3) = false := by simpa using g1
    have HE := Lib.hid (show okB ⟨rt, rs, ra, rn⟩ = false by rw [HF.out]; simp [inB, g1])
    clear HF HN HQ hU hcb g1
    go_enter Tryd.func29, Tryd.ntmps29
    go_wp2_with (go_at_call 54; refine (validTapes _ _).mono ?_; rw [d1]; rintro e w' ⟨rfl, rfl⟩)
    go_ret
    exact ⟨by rw [HE.out]; rfl, rfl⟩

theorem implValid (v : Value) (r : R) (w : World) (B : Nat) (h : RelAt w B v r) (hB : B ≤ w.heap.size) :
    Calls Tryd.prog 29 #[v] w fun e w' => e = .returned (.bool (okB r)) ∧ Below w.heap.size w w' := by
  obtain ⟨va, vn, rfl, ha, hn⟩ := h
  obtain ⟨O, hO⟩ : ∃ O : Obj, O = .cells #[.int .i64 r.tapes, .int .i64 r.start, va, vn] 27 := ⟨_, rfl⟩
  have hb : Below w.heap.size w (w.alloc O) := (Below.refl _ _).alloc (Nat.le_refl _) _
  have hn2 := hn.below hb hB
  obtain ⟨aa, ba, oa, ca, rfl, hma, -, -⟩ := ha
  obtain ⟨U, ⟨ab, bb, ob, cb, rfl, hmb, hbb, hcb⟩, hU⟩ := hn2
  refine (implValid_core r.tapes r.start r.accept r.next _ _ (Lib.hid rfl) (Lib.hid rfl) w B aa ab ca bb ob cb U O (Lib.hid hO) hma hmb (fun h => (hbb h).1) hcb hU).mono fun e w' ⟨he, hw⟩ => ⟨he, hw ▸ hb⟩
end Go.Proofs.YtcpcbmappcndcaaDoor.ValidImpl
/- Whether a tape can be left out: what the program's checkDropped answers.
   Conditions: the relation is read as XRel's text says. -/
namespace Go.Proofs.YtcpcbmappcndcaaDoor.DropI
set_option linter.unusedVariables false
set_option linter.unusedSimpArgs false
set_option maxRecDepth 100000
open Go.RowKit Mem Copy Rel Valid Heap Bld Columns OrdI

/-- The code of a relation and a tape that is to be left out. -/
def dropC (r : R) (x : Int) : Int := if okB r = true then (if (0 ≤ x ∧ x < r.tapes) ∧ r.tapes ≠ 1 then 0 else 2) else 1

set_option maxHeartbeats 8000000 in
theorem dropI (v : Value) (r : R) (x : Int) (w : World) (B : Nat) (h : RelAt w B v r) (hB : B ≤ w.heap.size) :
    Calls Tryd.prog 31 #[v, .int .i64 x] w fun e w' => e = .returned (.int .i64 (dropC r x)) ∧ Below w.heap.size w w' := by
  have HV := Lib.hid (fun W (hb : Below w.heap.size w W) => ValidImpl.implValid v r W B (h.below hb hB) (Nat.le_trans hB hb.size))
  have HE0 := Lib.hid (show okB r = false → dropC r x = 1 from fun h => by simp [dropC, h])
  have HE1 := Lib.hid (show okB r = true → dropC r x = if (0 ≤ x ∧ x < r.tapes) ∧ r.tapes ≠ 1 then 0 else 2 from fun h => by unfold dropC; rw [if_pos h])
  obtain ⟨C, hC⟩ : ∃ y, y = dropC r x := ⟨_, rfl⟩
  obtain ⟨q, hq⟩ : ∃ y, y = okB r := ⟨_, rfl⟩
  rw [← hC, ← hq] at HE0 HE1
  rw [← hq] at HV
  rw [← hC]
  clear hC hq
  obtain ⟨va, vn, rfl, ha, hx⟩ := h
  obtain ⟨aa, ba, oa, ca, rfl, -, -, -⟩ := ha
  obtain ⟨-, ⟨ab, bb, ob, cb, rfl, -, -, -⟩, -⟩ := hx
  obtain ⟨k, hk⟩ : ∃ k : Int, k = r.tapes := ⟨_, rfl⟩
  obtain ⟨st, hs⟩ : ∃ st : Int, st = r.start := ⟨_, rfl⟩
  obtain ⟨na, hna⟩ : ∃ na, na = r.accept.length := ⟨_, rfl⟩
  obtain ⟨nb, hnb⟩ : ∃ nb, nb = r.next.length := ⟨_, rfl⟩
  rw [← hk, ← hs, ← hna, ← hnb] at HV
  rw [← hk] at HE1
  rw [← hk, ← hs, ← hna, ← hnb]
  have HK0 := Lib.hid (show KB w #[.int .i64 k, .int .i64 st, .slice aa na ca, .slice ab nb cb] (w.alloc (.cells #[.int .i64 k, .int .i64 st, .slice aa na ca, .slice ab nb cb] 27)) from Below.refl _ _)
  have HV1 := Lib.hid (HV.out _ (KB.base HK0.out))
  have HHT := Lib.hid (fun W => hasTapeI k st aa ab na ca nb cb x W)
  clear hk hs hna hnb HV hB
  go_enter Tryd.func31, Tryd.ntmps31
  go_wp2_with fail
  refine HV1.out.mono ?_
  rintro e w3 ⟨rfl, hb3⟩
  rw [size_alloc'] at hb3
  have HK3 := Lib.hid (show KB w #[.int .i64 k, .int .i64 st, .slice aa na ca, .slice ab nb cb] w3 from hb3)
  clear hb3 HV1 HK0
  cases q with
  | false =>
    obtain rfl := HE0.out rfl
    clear HE0 HE1 HHT
    go_wp2_with fail
    go_ret
    exact ⟨rfl, KB.base HK3.out⟩
  | true =>
    have HE2 := Lib.hid (HE1.out rfl)
    have hbx := KB.box HK3.out
    have x0 := cells_get hbx 0
    have x1 := cells_get hbx 1
    have x2 := cells_get hbx 2
    have x3 := cells_get hbx 3
    have hlx := lt_of_block hbx
    simp at x0 x1 x2 x3
    clear HE0 HE1 hbx
    by_cases hr : 0 ≤ x ∧ x < k
    · have hd : decide (0 ≤ x ∧ x < k) = true := decide_eq_true hr
      by_cases h1 : k = 1
      · have hc : C = 2 := by rw [HE2.out, if_neg (fun h => h.2 h1)]
        subst hc
        have hk1 : (k == 1) = true := by simpa using h1
        have HH := Lib.hid (HHT.out w3)
        rw [hd] at HH
        clear hr h1 HE2 hd
        go_wp2_with fail
        refine HH.out.mono ?_
        rintro e w4 ⟨rfl, hb4⟩
        have HK4 := Lib.hid (show KB w #[.int .i64 k, .int .i64 st, .slice aa na ca, .slice ab nb cb] w4 from Below.trans HK3.out (hb4.mono (KB.size HK3.out)))
        have x4 := cells_get (KB.box HK4.out) 0
        have hl4 := lt_of_block (KB.box HK4.out)
        simp at x4
        clear hb4 HH
        go_wp2_with fail
        go_ret
        exact ⟨rfl, KB.base HK4.out⟩
      · have hc : C = 0 := by rw [HE2.out, if_pos ⟨hr, h1⟩]
        subst hc
        have hk1 : (k == 1) = false := by simpa using h1
        have HH := Lib.hid (HHT.out w3)
        rw [hd] at HH
        clear hr h1 HE2 hd
        go_wp2_with fail
        refine HH.out.mono ?_
        rintro e w4 ⟨rfl, hb4⟩
        have HK4 := Lib.hid (show KB w #[.int .i64 k, .int .i64 st, .slice aa na ca, .slice ab nb cb] w4 from Below.trans HK3.out (hb4.mono (KB.size HK3.out)))
        have x4 := cells_get (KB.box HK4.out) 0
        have hl4 := lt_of_block (KB.box HK4.out)
        simp at x4
        clear hb4 HH
        go_wp2_with fail
        go_ret
        exact ⟨rfl, KB.base HK4.out⟩
    · have hd : decide (0 ≤ x ∧ x < k) = false := decide_eq_false hr
      have hc : C = 2 := by rw [HE2.out, if_neg (fun h => hr h.1)]
      subst hc
      have HH := Lib.hid (HHT.out w3)
      rw [hd] at HH
      clear hr HE2 hd
      go_wp2_with fail
      refine HH.out.mono ?_
      rintro e w4 ⟨rfl, hb4⟩
      have HK4 := Lib.hid (show KB w #[.int .i64 k, .int .i64 st, .slice aa na ca, .slice ab nb cb] w4 from Below.trans HK3.out (hb4.mono (KB.size HK3.out)))
      clear hb4 HH
      go_wp2_with fail
      go_ret
      exact ⟨rfl, KB.base HK4.out⟩
end Go.Proofs.YtcpcbmappcndcaaDoor.DropI
/- The letters of a column with one more: what the program's withLetter hands back.
   Conditions: the tape is one of three. -/
namespace Go.Proofs.YtcpcbmappcndcaaDoor.WithI
set_option linter.unusedVariables false
set_option linter.unusedSimpArgs false
set_option maxRecDepth 100000
open Go.RowKit Mem Copy Rel Heap Bld Columns Numbers TidyRight TapeMath WithoutI

set_option maxHeartbeats 4000000 in
theorem with0 (x y z d : Int) (w : World) : Calls Tryd.prog 64 #[.agg #[.int .u8 x, .int .u8 y, .int .u8 z], .int .i64 0, .int .u8 d] w fun e w' => e = .returned (.agg #[.int .u8 d, .int .u8 x, .int .u8 y]) ∧ Below w.heap.size w w' := by
  obtain ⟨W, hW⟩ : ∃ W, W = ((w.alloc (.cells #[.int .u8 x, .int .u8 y, .int .u8 z] 82)).alloc (.cells #[Value.int .u8 0, .int .u8 0, .int .u8 0] 82)) := ⟨_, rfl⟩
  have hb0 : W.heap[w.heap.size]? = some (.cells #[.int .u8 x, .int .u8 y, .int .u8 z] 82 (0, 0)) := by
    rw [hW, Below.heap_alloc _ _ _ (by simp)]; exact heap_alloc_new _ _
  have hb1 : W.heap[w.heap.size + 1]? = some (.cells #[Value.int .u8 0, .int .u8 0, .int .u8 0] 82 (0, 0)) := by
    have := heap_alloc_new (w.alloc (.cells #[.int .u8 x, .int .u8 y, .int .u8 z] 82)) (.cells #[Value.int .u8 0, .int .u8 0, .int .u8 0] 82)
    rw [hW]; simpa using this
  have HBW := Lib.hid (show Below w.heap.size w W by rw [hW]; exact ((Below.refl _ w).alloc (Nat.le_refl _) _).alloc (by simp) _)
  have hcp : (Builtin.copy_ #[102, 102] 3 #[.slice (some ⟨w.heap.size, 1, none⟩) 2 2, .slice (some ⟨w.heap.size, 0, none⟩) 3 3]).run Tryd.prog W.drew = .ok (goInt 2) (W.drew.setCells w.heap.size 1 [.int .u8 x, .int .u8 y]) :=
    run_copy_cells W.drew _ _ _ 5 w.heap.size 1 2 2 ⟨w.heap.size, 0, none⟩ 3 3 [.int .u8 x, .int .u8 y] Tryd.underlying102 infoB rfl
      (fun j v hj => by
        have ea : Addr.add ⟨w.heap.size, 0, none⟩ j = ⟨w.heap.size, 0 + j, none⟩ := by (first | (simp [Addr.add]; done) | (simp [Addr.add]; intro h; exact h.symm))
        rw [ea]
        show W.cell? ⟨w.heap.size, 0 + j, none⟩ = some v
        rw [cells_get hb0]
        revert hj; match j with
        | 0 => intro hj; first | simpa using hj | (simp at hj)
        | 1 => intro hj; first | (simp at hj; done) | simpa using hj
        | j + 2 => intro hj; simp at hj)
      (fun j hj => by
        show (W.cell? ⟨w.heap.size, 1 + j, none⟩).isSome = true
        rw [cells_get hb0]
        simp at hj
        first
          | omega
          | (have : j = 0 ∨ j = 1 := by omega
             rcases this with rfl | rfl <;> rfl)
          | (subst hj; rfl))
      (fun j hj => cells_free hb0 _) (fun v hv => by
        simp at hv
        first
          | (rcases hv with rfl | rfl <;> rfl)
          | (subst hv; rfl))
  have hwr : IntKind.i64.wrap 1 = 1 := rfl
  go_enter Tryd.func64, Tryd.ntmps64
  go_wp2_with fail
  rw [← hW]
  clear hW
  go_region_law (refine step_copy_run (by rfl) _ _ _ _ (by rfl) _ _ (by rfl) (by rfl) 2 _ hcp ?_)
  all_goals
    clear hcp
    have x0 := cells_get hb0 0
    have x1 := cells_get hb0 1
    have x2 := cells_get hb0 2
    have f0 := cells_free hb0 0
    have f1 := cells_free hb0 1
    have f2 := cells_free hb0 2
    have y0 := cells_get hb1 0
    have y1 := cells_get hb1 1
    have y2 := cells_get hb1 2
    have g0 := cells_free hb1 0
    have g1 := cells_free hb1 1
    have g2 := cells_free hb1 2
    simp at x0 x1 x2 y0 y1 y2
    simp only [World.setCells, Nat.reduceAdd]
    go_wp2_with fail
    obtain ⟨r0, r1, r2⟩ := res3 (W := (((W.setCell ⟨w.heap.size, 1, none⟩ (.int .u8 x)).setCell ⟨w.heap.size, 2, none⟩ (.int .u8 y)).setCell ⟨w.heap.size, 0, none⟩ (.int .u8 d))) (N := w.heap.size + 1) (a := .int .u8 d) (b := .int .u8 x) (c := .int .u8 y) (by first | (repeat rw [Below.heap_setCell _ _ _ _ (by simp)]); exact hb1)
    refine bodyPost_ret (v := .agg #[.int .u8 d, .int .u8 x, .int .u8 y]) (by simp [results, Tryd.results64, go_sem, r0, r1, r2]) rfl ⟨rfl, ?_⟩
    exact ((((((HBW.out.setCell (p := ⟨w.heap.size, 1, none⟩) (Nat.le_refl _) _).setCell (p := ⟨w.heap.size, 2, none⟩) (Nat.le_refl _) _).setCell (p := ⟨w.heap.size, 0, none⟩) (Nat.le_refl _) _).setCell (p := ⟨w.heap.size + 1, 0, none⟩) (Nat.le_succ _) _).setCell (p := ⟨w.heap.size + 1, 1, none⟩) (Nat.le_succ _) _).setCell (p := ⟨w.heap.size + 1, 2, none⟩) (Nat.le_succ _) _).drew

set_option maxHeartbeats 4000000 in
theorem with1 (x y z d : Int) (w : World) : Calls Tryd.prog 64 #[.agg #[.int .u8 x, .int .u8 y, .int .u8 z], .int .i64 1, .int .u8 d] w fun e w' => e = .returned (.agg #[.int .u8 x, .int .u8 d, .int .u8 y]) ∧ Below w.heap.size w w' := by
  obtain ⟨W, hW⟩ : ∃ W, W = ((w.alloc (.cells #[.int .u8 x, .int .u8 y, .int .u8 z] 82)).alloc (.cells #[Value.int .u8 0, .int .u8 0, .int .u8 0] 82)) := ⟨_, rfl⟩
  have hb0 : W.heap[w.heap.size]? = some (.cells #[.int .u8 x, .int .u8 y, .int .u8 z] 82 (0, 0)) := by
    rw [hW, Below.heap_alloc _ _ _ (by simp)]; exact heap_alloc_new _ _
  have hb1 : W.heap[w.heap.size + 1]? = some (.cells #[Value.int .u8 0, .int .u8 0, .int .u8 0] 82 (0, 0)) := by
    have := heap_alloc_new (w.alloc (.cells #[.int .u8 x, .int .u8 y, .int .u8 z] 82)) (.cells #[Value.int .u8 0, .int .u8 0, .int .u8 0] 82)
    rw [hW]; simpa using this
  have HBW := Lib.hid (show Below w.heap.size w W by rw [hW]; exact ((Below.refl _ w).alloc (Nat.le_refl _) _).alloc (by simp) _)
  have hcp : (Builtin.copy_ #[102, 102] 3 #[.slice (some ⟨w.heap.size, 2, none⟩) 1 1, .slice (some ⟨w.heap.size, 1, none⟩) 2 2]).run Tryd.prog W.drew = .ok (goInt 1) (W.drew.setCells w.heap.size 2 [.int .u8 y]) :=
    run_copy_cells W.drew _ _ _ 5 w.heap.size 2 1 1 ⟨w.heap.size, 1, none⟩ 2 2 [.int .u8 y] Tryd.underlying102 infoB rfl
      (fun j v hj => by
        have ea : Addr.add ⟨w.heap.size, 1, none⟩ j = ⟨w.heap.size, 1 + j, none⟩ := by (first | (simp [Addr.add]; done) | (simp [Addr.add]; intro h; exact h.symm))
        rw [ea]
        show W.cell? ⟨w.heap.size, 1 + j, none⟩ = some v
        rw [cells_get hb0]
        revert hj; match j with
        | 0 => intro hj; first | simpa using hj | (simp at hj)
        | 1 => intro hj; first | (simp at hj; done) | simpa using hj
        | j + 2 => intro hj; simp at hj)
      (fun j hj => by
        show (W.cell? ⟨w.heap.size, 2 + j, none⟩).isSome = true
        rw [cells_get hb0]
        simp at hj
        first
          | omega
          | (have : j = 0 ∨ j = 1 := by omega
             rcases this with rfl | rfl <;> rfl)
          | (subst hj; rfl))
      (fun j hj => cells_free hb0 _) (fun v hv => by
        simp at hv
        first
          | (rcases hv with rfl | rfl <;> rfl)
          | (subst hv; rfl))
  have hwr : IntKind.i64.wrap 2 = 2 := rfl
  go_enter Tryd.func64, Tryd.ntmps64
  go_wp2_with fail
  rw [← hW]
  clear hW
  go_region_law (refine step_copy_run (by rfl) _ _ _ _ (by rfl) _ _ (by rfl) (by rfl) 1 _ hcp ?_)
  all_goals
    clear hcp
    have x0 := cells_get hb0 0
    have x1 := cells_get hb0 1
    have x2 := cells_get hb0 2
    have f0 := cells_free hb0 0
    have f1 := cells_free hb0 1
    have f2 := cells_free hb0 2
    have y0 := cells_get hb1 0
    have y1 := cells_get hb1 1
    have y2 := cells_get hb1 2
    have g0 := cells_free hb1 0
    have g1 := cells_free hb1 1
    have g2 := cells_free hb1 2
    simp at x0 x1 x2 y0 y1 y2
    simp only [World.setCells, Nat.reduceAdd]
    go_wp2_with fail
    obtain ⟨r0, r1, r2⟩ := res3 (W := ((W.setCell ⟨w.heap.size, 2, none⟩ (.int .u8 y)).setCell ⟨w.heap.size, 1, none⟩ (.int .u8 d))) (N := w.heap.size + 1) (a := .int .u8 x) (b := .int .u8 d) (c := .int .u8 y) (by first | (repeat rw [Below.heap_setCell _ _ _ _ (by simp)]); exact hb1)
    refine bodyPost_ret (v := .agg #[.int .u8 x, .int .u8 d, .int .u8 y]) (by simp [results, Tryd.results64, go_sem, r0, r1, r2]) rfl ⟨rfl, ?_⟩
    exact (((((HBW.out.setCell (p := ⟨w.heap.size, 2, none⟩) (Nat.le_refl _) _).setCell (p := ⟨w.heap.size, 1, none⟩) (Nat.le_refl _) _).setCell (p := ⟨w.heap.size + 1, 0, none⟩) (Nat.le_succ _) _).setCell (p := ⟨w.heap.size + 1, 1, none⟩) (Nat.le_succ _) _).setCell (p := ⟨w.heap.size + 1, 2, none⟩) (Nat.le_succ _) _).drew

set_option maxHeartbeats 4000000 in
theorem with2 (x y z d : Int) (w : World) : Calls Tryd.prog 64 #[.agg #[.int .u8 x, .int .u8 y, .int .u8 z], .int .i64 2, .int .u8 d] w fun e w' => e = .returned (.agg #[.int .u8 x, .int .u8 y, .int .u8 d]) ∧ Below w.heap.size w w' := by
  obtain ⟨W, hW⟩ : ∃ W, W = ((w.alloc (.cells #[.int .u8 x, .int .u8 y, .int .u8 z] 82)).alloc (.cells #[Value.int .u8 0, .int .u8 0, .int .u8 0] 82)) := ⟨_, rfl⟩
  have hb0 : W.heap[w.heap.size]? = some (.cells #[.int .u8 x, .int .u8 y, .int .u8 z] 82 (0, 0)) := by
    rw [hW, Below.heap_alloc _ _ _ (by simp)]; exact heap_alloc_new _ _
  have hb1 : W.heap[w.heap.size + 1]? = some (.cells #[Value.int .u8 0, .int .u8 0, .int .u8 0] 82 (0, 0)) := by
    have := heap_alloc_new (w.alloc (.cells #[.int .u8 x, .int .u8 y, .int .u8 z] 82)) (.cells #[Value.int .u8 0, .int .u8 0, .int .u8 0] 82)
    rw [hW]; simpa using this
  have HBW := Lib.hid (show Below w.heap.size w W by rw [hW]; exact ((Below.refl _ w).alloc (Nat.le_refl _) _).alloc (by simp) _)
  have hcp : (Builtin.copy_ #[102, 102] 3 #[.slice (some ⟨w.heap.size, 0, none⟩) 0 0, .slice (some ⟨w.heap.size, 2, none⟩) 1 1]).run Tryd.prog W.drew = .ok (goInt 0) W.drew :=
    run_copy_none W.drew _ _ _ 5 _ _ 0 0 1 1 Tryd.underlying102 infoB rfl
  have hwr : IntKind.i64.wrap 3 = 3 := rfl
  go_enter Tryd.func64, Tryd.ntmps64
  go_wp2_with fail
  rw [← hW]
  clear hW
  go_region_law (refine step_copy_run (by rfl) _ _ _ _ (by rfl) _ _ (by rfl) (by rfl) 0 _ hcp ?_)
  all_goals
    clear hcp
    have x0 := cells_get hb0 0
    have x1 := cells_get hb0 1
    have x2 := cells_get hb0 2
    have f0 := cells_free hb0 0
    have f1 := cells_free hb0 1
    have f2 := cells_free hb0 2
    have y0 := cells_get hb1 0
    have y1 := cells_get hb1 1
    have y2 := cells_get hb1 2
    have g0 := cells_free hb1 0
    have g1 := cells_free hb1 1
    have g2 := cells_free hb1 2
    simp at x0 x1 x2 y0 y1 y2
    skip
    go_wp2_with fail
    obtain ⟨r0, r1, r2⟩ := res3 (W := (W.setCell ⟨w.heap.size, 2, none⟩ (.int .u8 d))) (N := w.heap.size + 1) (a := .int .u8 x) (b := .int .u8 y) (c := .int .u8 d) (by first | (repeat rw [Below.heap_setCell _ _ _ _ (by simp)]); exact hb1)
    refine bodyPost_ret (v := .agg #[.int .u8 x, .int .u8 y, .int .u8 d]) (by simp [results, Tryd.results64, go_sem, r0, r1, r2]) rfl ⟨rfl, ?_⟩
    exact ((((HBW.out.setCell (p := ⟨w.heap.size, 2, none⟩) (Nat.le_refl _) _).setCell (p := ⟨w.heap.size + 1, 0, none⟩) (Nat.le_succ _) _).setCell (p := ⟨w.heap.size + 1, 1, none⟩) (Nat.le_succ _) _).setCell (p := ⟨w.heap.size + 1, 2, none⟩) (Nat.le_succ _) _).drew

theorem withAny (x y z d : Int) (tape : Nat) (ht : tape ≤ 2) (w : World) : Calls Tryd.prog 64 #[.agg #[.int .u8 x, .int .u8 y, .int .u8 z], .int .i64 tape, .int .u8 d] w fun e w' => e = .returned (.agg #[.int .u8 (if tape = 0 then d else x), .int .u8 (if tape = 0 then x else if tape = 1 then d else y), .int .u8 (if tape = 2 then d else y)]) ∧ Below w.heap.size w w' := by
  have : tape = 0 ∨ tape = 1 ∨ tape = 2 := by omega
  rcases this with rfl | rfl | rfl
  · exact with0 _ _ _ _ w
  · exact with1 _ _ _ _ w
  · exact with2 _ _ _ _ w
end Go.Proofs.YtcpcbmappcndcaaDoor.WithI
