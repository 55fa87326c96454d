
/- What the program answers where it looks whether a relation is valid.
   Conditions: the relation is read as XRel's text says. -/
import Derived.Test.YtjplmmokbkkclaaFM8
import Derived.Test.YtjplmmokbkkclaaFM11
import Derived.Test.YtjplmmokbkkclaaFM6
import Derived.BigQuiet
import Derived.Deep.QuietTactic
namespace Go.Proofs.Ytjplmmokbkkclaa.ValidImpl
set_option linter.unusedVariables false
set_option linter.unusedSimpArgs false
open Go.RowKit Mem Rel Columns Valid

theorem okB_eq (r : R) : okB r = (inB r.tapes 1 3 && decide (1 ≤ (r.next.length : Int)) && decide ((r.next.length : Int) ≤ 150) && decide ((r.accept.length : Int) = r.next.length) &&
    decide (0 ≤ r.start) && decide (r.start < r.next.length) && r.next.all (rowOk (widthOf r.tapes) r.next.length)) := by
  unfold okB formB headB
  by_cases h : (r.accept.length : Int) = r.next.length
  · rw [h]
    by_cases a : (1 : Int) ≤ r.next.length <;> by_cases b : (r.next.length : Int) ≤ 150 <;> by_cases c : 0 ≤ r.start <;> by_cases d : r.start < r.next.length <;> cases inB r.tapes 1 3 <;>
      simp [inB, a, b, c, d] <;> omega
  · have h' : ¬ (r.next.length : Int) = r.accept.length := fun e => h e.symm
    simp [h, h']

set_option maxHeartbeats 2000000 in
theorem implValid_core (rt rs : Int) (ra : List Bool) (rn : List (List Int)) (n q : Nat) (HN : Hid (n = ra.length)) (HQ : Hid (q = rn.length)) (w : World) (B : Nat)
    (aa ab : Option Addr) (ca bb ob cb : Nat) (U : Nat → Value) (O : Obj) (hO : Hid (O = .cells #[.int .i64 rt, .int .i64 rs, .slice aa n ca, .slice ab q cb] 30))
    (hma : n ≤ 9223372036854775807) (hmb : q ≤ 9223372036854775807) (hbb : 0 < q → ab = some ⟨bb, ob, none⟩) (hcb : ∀ i, i < q → (w.alloc O).cell? ⟨bb, ob + i, none⟩ = some (U i)) (hU : ∀ i, i < q → Ints (w.alloc O) B (U i) (rn.getD i [])) :
    Calls Try.prog 33 #[.agg #[.int .i64 rt, .int .i64 rs, .slice aa n ca, .slice ab q cb]] w fun e w' => e = .returned (.bool (okB ⟨rt, rs, ra, rn⟩)) ∧ w.alloc O = w' := by
  have HF : Hid (okB ⟨rt, rs, ra, rn⟩ = (inB rt 1 3 && decide (1 ≤ (q : Int)) && decide ((q : Int) ≤ 150) && decide ((n : Int) = q) && decide (0 ≤ rs) && decide (rs < q) && rn.all (rowOk (widthOf rt) q))) := Lib.hid (by rw [HN.out, HQ.out]; exact okB_eq ⟨rt, rs, ra, rn⟩)
  obtain rfl := hO.out
  clear hO
  by_cases g1 : 1 ≤ rt ∧ rt ≤ 3
  · have d1 : decide (1 ≤ rt ∧ rt ≤ 3) = true := by simpa using g1
    by_cases g2 : 1 ≤ (q : Int)
    · have d2 : decide ((q : Int) < 1) = false := by simp; omega
      by_cases g3 : (q : Int) ≤ 150
      · have d3 : decide (150 < (q : Int)) = false := by simp; omega
        by_cases g4 : (n : Int) = q
        · have hqn : n = q := by omega
          subst hqn
          have d4 : ((n : Int) != (n : Int)) = false := by simp
          by_cases g5 : 0 ≤ rs
          · have d5 : decide (rs < 0) = false := by simp; omega
            by_cases g6 : rs < n
            · have d6 : decide ((n : Int) ≤ rs) = false := by simp; omega
              have HE2 := Lib.hid (show okB ⟨rt, rs, ra, rn⟩ = rn.all (rowOk (widthOf rt) n) by rw [HF.out]; simp [inB, g1, g2, g3, g5, g6])
              clear HF g4
              obtain ⟨hW0, hW1⟩ := width_bounds rt
              have r1 := g1.1
              have r3 := g1.2
              clear g1
              go_enter Try.func33, Try.ntmps33
              go_wp2_with (go_at_call 54; refine (validTapes _ _).mono ?_; rw [d1]; rintro e w' ⟨rfl, rfl⟩)
              clear d1 d2 d3 d5 d6
              go_loop [42] (fun i => ∃ k : Nat, k ≤ n ∧ i = .int .i64 k ∧ (rn.take k).all (rowOk (widthOf rt) n) = true) (fun i => n - (intOf i).toNat)
              case atStart => exact ⟨0, Nat.zero_le _, rfl, rfl⟩
              case round =>
                obtain ⟨k, hk, rfl, hg⟩ := hrel
                have HG := Lib.hid hg
                clear hg
                by_cases hlt : k < n
                · obtain rfl := hbb (by omega)
                  have cH := hcb k hlt
                  have hUk := hU k hlt
                  obtain ⟨x, hx⟩ : ∃ x, x = rn.getD k [] := ⟨_, rfl⟩
                  obtain ⟨u, hu⟩ : ∃ u, u = U k := ⟨_, rfl⟩
                  rw [← hu] at cH hUk
                  rw [← hx] at hUk
                  obtain ⟨ax, bx, ox, cx, hux, hmx, hxx, hcx⟩ := hUk
                  obtain ⟨p, hp⟩ : ∃ p, p = x.length := ⟨_, rfl⟩
                  rw [← hp] at hux hmx hxx hcx
                  rw [hux] at cH
                  unfold maxLen at hmx
                  have HP := Lib.hid hp
                  have HX := Lib.hid hx
                  clear hx hu hux hp hcb hU
                  have HC := Lib.hid (countAny rt r1 r3)
                  obtain ⟨W, hW⟩ : ∃ W, W = widthOf rt := ⟨_, rfl⟩
                  rw [← hW] at HC hW0 hW1 HE2 HG
                  have HW := Lib.hid hW
                  rw [← hW]
                  clear hW
                  by_cases hl : (p : Int) = W
                  · have hl1 : ((p : Int) != W) = false := by simp [hl]
                    have HPW := Lib.hid hl
                    clear hl
                    go_wp2_with (go_at_call 55; refine (HC.out _).mono ?_; rintro e w' ⟨rfl, rfl⟩)
                    go_loop [54] (fun j => ∃ l : Nat, l ≤ p ∧ j = .int .i64 l ∧ (x.take l).all (entryOk n) = true) (fun j => p - (intOf j).toNat)
                    case atStart => exact ⟨0, Nat.zero_le _, rfl, rfl⟩
                    case round =>
                      obtain ⟨l, hl, rfl, hgl⟩ := hrel
                      have HGL := Lib.hid hgl
                      clear hgl
                      by_cases hlp : l < p
                      · obtain rfl := (hxx (by omega)).1
                        have cY := hcx l hlp
                        obtain ⟨y, hy⟩ : ∃ y, y = x.getD l 0 := ⟨_, rfl⟩
                        rw [← hy] at cY
                        have HY := Lib.hid hy
                        clear hy hcx
                        by_cases ho : entryOk n y = true
                        · have HA := Lib.hid (all_take_succ x 0 (entryOk n) l (by rw [← HP.out]; exact hlp) HGL.out (by rw [← HY.out]; exact ho))
                          have ho' : 0 ≤ y ∧ y ≤ (n : Int) - 1 := by simpa [entryOk, inB] using ho
                          have t1 : decide (y < 0) = false := by simp; omega
                          have t2 : decide ((n : Int) ≤ y) = false := by simp; omega
                          clear ho ho'
                          go_wp2
                          go_round
                          case rel => exact ⟨l + 1, by omega, by go_num, HA.out⟩
                          case measure => simp [intOf]; omega
                        · have ho' : ¬ (0 ≤ y ∧ y ≤ (n : Int) - 1) := by simpa [entryOk, inB] using ho
                          have HA := Lib.hid (show okB ⟨rt, rs, ra, rn⟩ = false by
                            rw [HE2.out]
                            refine all_false rn [] _ k (by rw [← HQ.out]; exact hlt) ?_
                            rw [← HX.out]
                            unfold rowOk
                            rw [all_false x 0 (entryOk n) l (by rw [← HP.out]; exact hlp) (by rw [← HY.out]; simpa using ho)]
                            simp)
                          clear ho
                          by_cases hy0 : y < 0
                          · have t1 : decide (y < 0) = true := by simpa using hy0
                            go_wp2
                            go_ret
                            exact ⟨by rw [HA.out]; rfl, rfl⟩
                          · have t1 : decide (y < 0) = false := by simpa using hy0
                            have t2 : decide ((n : Int) ≤ y) = true := by simp; omega
                            go_wp2
                            go_ret
                            exact ⟨by rw [HA.out]; rfl, rfl⟩
                      · have HA := Lib.hid (all_take_succ rn [] (rowOk W n) k (by rw [← HQ.out]; exact hlt) HG.out (by
                          rw [← HX.out]
                          unfold rowOk
                          rw [all_end x (entryOk n) l (by rw [← HP.out]; omega) HGL.out, ← HP.out, decide_eq_true HPW.out]
                          rfl))
                        clear hcx hxx
                        go_wp2
                        go_round
                        case rel => exact ⟨k + 1, by omega, by go_num, HA.out⟩
                        case measure => simp [intOf]; omega
                  · have hl1 : ((p : Int) != W) = true := by rw [bne_iff_ne]; exact hl
                    have HS := Lib.hid (show okB ⟨rt, rs, ra, rn⟩ = false by
                      rw [HE2.out]
                      refine all_false rn [] _ k (by rw [← HQ.out]; exact hlt) ?_
                      rw [← HX.out]
                      unfold rowOk
                      rw [← HP.out, decide_eq_false hl]
                      rfl)
                    clear hl hcx hxx
                    go_wp2_with (go_at_call 55; refine (HC.out _).mono ?_; rintro e w' ⟨rfl, rfl⟩)
                    go_ret
                    exact ⟨by rw [HS.out]; rfl, rfl⟩
                · have HA := Lib.hid (show okB ⟨rt, rs, ra, rn⟩ = true by rw [HE2.out]; exact all_end rn _ k (by rw [← HQ.out]; omega) HG.out)
                  clear hcb hU
                  go_wp2
                  go_ret
                  exact ⟨by rw [HA.out]; rfl, rfl⟩
            · have HE := Lib.hid (show okB ⟨rt, rs, ra, rn⟩ = false by rw [HF.out]; simp [g6])
              have d6 : decide ((n : Int) ≤ rs) = true := by simp; omega
              clear HF HN HQ hU hcb g1 g6
              go_enter Try.func33, Try.ntmps33
              go_wp2_with (go_at_call 54; refine (validTapes _ _).mono ?_; rw [d1]; rintro e w' ⟨rfl, rfl⟩)
              go_ret
              exact ⟨by rw [HE.out]; rfl, rfl⟩
          · have HE := Lib.hid (show okB ⟨rt, rs, ra, rn⟩ = false by rw [HF.out]; simp [g5])
            have d5 : decide (rs < 0) = true := by simp; omega
            clear HF HN HQ hU hcb g1 g5
            go_enter Try.func33, Try.ntmps33
            go_wp2_with (go_at_call 54; refine (validTapes _ _).mono ?_; rw [d1]; rintro e w' ⟨rfl, rfl⟩)
            go_ret
            exact ⟨by rw [HE.out]; rfl, rfl⟩
        · have HE := Lib.hid (show okB ⟨rt, rs, ra, rn⟩ = false by rw [HF.out]; simp [g4])
          have d4 : ((n : Int) != (q : Int)) = true := by rw [bne_iff_ne]; exact g4
          clear HF HN HQ hU hcb g1 g4
          go_enter Try.func33, Try.ntmps33
          go_wp2_with (go_at_call 54; refine (validTapes _ _).mono ?_; rw [d1]; rintro e w' ⟨rfl, rfl⟩)
          go_ret
          exact ⟨by rw [HE.out]; rfl, rfl⟩
      · have HE := Lib.hid (show okB ⟨rt, rs, ra, rn⟩ = false by rw [HF.out]; simp [g3])
        have d3 : decide (150 < (q : Int)) = true := by simp; omega
        clear HF HN HQ hU hcb g1 g3
        go_enter Try.func33, Try.ntmps33
        go_wp2_with (go_at_call 54; refine (validTapes _ _).mono ?_; rw [d1]; rintro e w' ⟨rfl, rfl⟩)
        go_ret
        exact ⟨by rw [HE.out]; rfl, rfl⟩
    · have HE := Lib.hid (show okB ⟨rt, rs, ra, rn⟩ = false by rw [HF.out]; simp [g2])
      have d2 : decide ((q : Int) < 1) = true := by simp; omega
      clear HF HN HQ hU hcb g1 g2
      go_enter Try.func33, Try.ntmps33
      go_wp2_with (go_at_call 54; refine (validTapes _ _).mono ?_; rw [d1]; rintro e w' ⟨rfl, rfl⟩)
      go_ret
      exact ⟨by rw [HE.out]; rfl, rfl⟩
  · have d1 : decide (1 ≤ rt ∧ rt ≤ 3) = false := by simpa using g1
    have HE := Lib.hid (show okB ⟨rt, rs, ra, rn⟩ = false by rw [HF.out]; simp [inB, g1])
    clear HF HN HQ hU hcb g1
    go_enter Try.func33, Try.ntmps33
    go_wp2_with (go_at_call 54; refine (validTapes _ _).mono ?_; rw [d1]; rintro e w' ⟨rfl, rfl⟩)
    go_ret
    exact ⟨by rw [HE.out]; rfl, rfl⟩

theorem implValid (v : Value) (r : R) (w : World) (B : Nat) (h : RelAt w B v r) (hB : B ≤ w.heap.size) :
    Calls Try.prog 33 #[v] w fun e w' => e = .returned (.bool (okB r)) ∧ Below w.heap.size w w' := by
  obtain ⟨va, vn, rfl, ha, hn⟩ := h
  obtain ⟨O, hO⟩ : ∃ O : Obj, O = .cells #[.int .i64 r.tapes, .int .i64 r.start, va, vn] 30 := ⟨_, rfl⟩
  have hb : Below w.heap.size w (w.alloc O) := (Below.refl _ _).alloc (Nat.le_refl _) _
  have hn2 := hn.below hb hB
  obtain ⟨aa, ba, oa, ca, rfl, hma, -, -⟩ := ha
  obtain ⟨U, ⟨ab, bb, ob, cb, rfl, hmb, hbb, hcb⟩, hU⟩ := hn2
  refine (implValid_core r.tapes r.start r.accept r.next _ _ (Lib.hid rfl) (Lib.hid rfl) w B aa ab ca bb ob cb U O (Lib.hid hO) hma hmb (fun h => (hbb h).1) hcb hU).mono fun e w' ⟨he, hw⟩ => ⟨he, hw ▸ hb⟩
end Go.Proofs.Ytjplmmokbkkclaa.ValidImpl
/- The code of two relations that are asked about, the program's and the model's.
   Conditions: the relations are read as XMem's text says. -/
namespace Go.Proofs.Ytjplmmokbkkclaa.Alike
set_option linter.unusedVariables false
set_option linter.unusedSimpArgs false
set_option maxRecDepth 100000
open Go.RowKit Mem Copy Rel Valid Heap Columns Bld ToL

abbrev K2 (w : World) (c d : Array Value) (W : World) : Prop := Below (w.heap.size + 2) ((w.alloc (.cells c 30)).alloc (.cells d 30)) W
theorem K2.size {w W : World} {c d : Array Value} (h : K2 w c d W) : w.heap.size + 2 ≤ W.heap.size := by have := Below.size h; rw [size_alloc', size_alloc'] at this; exact this
theorem K2.base {w W : World} {c d : Array Value} (h : K2 w c d W) : Below w.heap.size w W :=
  (base_box (base_box (Below.refl _ w) _) _).trans (Below.mono h (by omega))
theorem K2.box1 {w W : World} {c d : Array Value} (h : K2 w c d W) : W.heap[w.heap.size]? = some (.cells c 30 (0, 0)) := by
  rw [Below.block h _ (by omega), Below.heap_alloc _ _ _ (by rw [size_alloc']; omega)]; exact heap_alloc_new _ _
theorem K2.box2 {w W : World} {c d : Array Value} (h : K2 w c d W) : W.heap[w.heap.size + 1]? = some (.cells d 30 (0, 0)) := by
  rw [Below.block h _ (by omega)]
  have := heap_alloc_new (w.alloc (.cells c 30)) (.cells d 30)
  rwa [size_alloc'] at this

/-- The code for two relations. -/
def alikeC (r s : R) : Int := if okB r = true then (if okB s = true then (if r.tapes = s.tapes then 0 else 2) else 1) else 1

set_option maxHeartbeats 8000000 in
theorem alikeI (v u : Value) (r s : R) (w : World) (B : Nat) (h : RelAt w B v r) (h' : RelAt w B u s) (hB : B ≤ w.heap.size) :
    Calls Try.prog 46 #[v, u] w fun e w' => e = .returned (.int .i64 (alikeC r s)) ∧ Below w.heap.size w w' := by
  have HV1 := Lib.hid (fun W (hb : Below w.heap.size w W) => ValidImpl.implValid v r W B (h.below hb hB) (Nat.le_trans hB hb.size))
  have HV2 := Lib.hid (fun W (hb : Below w.heap.size w W) => ValidImpl.implValid u s W B (h'.below hb hB) (Nat.le_trans hB hb.size))
  have HE1 := Lib.hid (show okB r = false → alikeC r s = 1 from fun h => by simp [alikeC, h])
  have HE2 := Lib.hid (show okB r = true → okB s = false → alikeC r s = 1 from fun h h2 => by simp [alikeC, h, h2])
  have HE3 := Lib.hid (show okB r = true → okB s = true → r.tapes ≠ s.tapes → alikeC r s = 2 from fun h h2 h3 => by simp [alikeC, h, h2, h3])
  have HE4 := Lib.hid (show okB r = true → okB s = true → r.tapes = s.tapes → alikeC r s = 0 from fun h h2 h3 => by simp [alikeC, h, h2, h3])
  obtain ⟨C, hC⟩ : ∃ x, x = alikeC r s := ⟨_, rfl⟩
  rw [← hC] at HE1 HE2 HE3 HE4
  rw [← hC]
  obtain ⟨q1, hq1⟩ : ∃ x, x = okB r := ⟨_, rfl⟩
  obtain ⟨q2, hq2⟩ : ∃ x, x = okB s := ⟨_, rfl⟩
  rw [← hq1] at HV1 HE1 HE2 HE3 HE4
  rw [← hq2] at HV2 HE2 HE3 HE4
  clear hC hq1 hq2
  obtain ⟨va, vn, rfl, ha, hn⟩ := h
  obtain ⟨aa1, ba, oa, ca1, rfl, -, -, -⟩ := ha
  obtain ⟨-, ⟨ab1, bb, ob, cb1, rfl, -, -, -⟩, -⟩ := hn
  obtain ⟨va, vn, rfl, ha, hn⟩ := h'
  obtain ⟨aa2, ba, oa, ca2, rfl, -, -, -⟩ := ha
  obtain ⟨-, ⟨ab2, bb, ob, cb2, rfl, -, -, -⟩, -⟩ := hn
  obtain ⟨k1, hk⟩ : ∃ x, x = r.tapes := ⟨_, rfl⟩
  obtain ⟨st1, hst⟩ : ∃ x, x = r.start := ⟨_, rfl⟩
  obtain ⟨na1, hna⟩ : ∃ x, x = r.accept.length := ⟨_, rfl⟩
  obtain ⟨nb1, hnb⟩ : ∃ x, x = r.next.length := ⟨_, rfl⟩
  rw [← hk, ← hst, ← hna, ← hnb] at HV1
  rw [← hk] at HE3 HE4
  rw [← hk, ← hst, ← hna, ← hnb]
  clear hk hst hna hnb
  obtain ⟨k2, hk⟩ : ∃ x, x = s.tapes := ⟨_, rfl⟩
  obtain ⟨st2, hst⟩ : ∃ x, x = s.start := ⟨_, rfl⟩
  obtain ⟨na2, hna⟩ : ∃ x, x = s.accept.length := ⟨_, rfl⟩
  obtain ⟨nb2, hnb⟩ : ∃ x, x = s.next.length := ⟨_, rfl⟩
  rw [← hk, ← hst, ← hna, ← hnb] at HV2
  rw [← hk] at HE3 HE4
  rw [← hk, ← hst, ← hna, ← hnb]
  clear hk hst hna hnb
  have HC1 := Lib.hid (HV1.out ((w.alloc (.cells #[.int .i64 k1, .int .i64 st1, .slice aa1 na1 ca1, .slice ab1 nb1 cb1] 30)).alloc (.cells #[.int .i64 k2, .int .i64 st2, .slice aa2 na2 ca2, .slice ab2 nb2 cb2] 30)) (base_box (base_box (Below.refl _ w) _) _))
  clear HV1 hB
  go_enter Try.func46, Try.ntmps46
  go_wp2_with fail
  refine HC1.out.mono ?_
  rintro e w3 ⟨rfl, hb3⟩
  rw [size_alloc', size_alloc'] at hb3
  have HK3 := Lib.hid (show K2 w #[.int .i64 k1, .int .i64 st1, .slice aa1 na1 ca1, .slice ab1 nb1 cb1] #[.int .i64 k2, .int .i64 st2, .slice aa2 na2 ca2, .slice ab2 nb2 cb2] w3 from hb3)
  have HW3 := Lib.hid (K2.base HK3.out)
  have hb1 := K2.box1 HK3.out
  have hb2 := K2.box2 HK3.out
  have x0 := cells_get hb1 0
  have y0 := cells_get hb2 0
  have y1 := cells_get hb2 1
  have y2 := cells_get hb2 2
  have y3 := cells_get hb2 3
  simp at x0 y0 y1 y2 y3
  clear hb3 hb1 hb2 HC1
  cases q1 with
  | false =>
    obtain rfl := HE1.out rfl
    clear HE1 HE2 HE3 HE4 HV2
    go_wp2_with fail
    go_ret
    exact ⟨rfl, HW3.out⟩
  | true =>
    have HC2 := Lib.hid (HV2.out w3 HW3.out)
    clear HV2
    go_wp2_with fail
    refine HC2.out.mono ?_
    rintro e w4 ⟨rfl, hb4⟩
    have HK4 := Lib.hid (show K2 w #[.int .i64 k1, .int .i64 st1, .slice aa1 na1 ca1, .slice ab1 nb1 cb1] #[.int .i64 k2, .int .i64 st2, .slice aa2 na2 ca2, .slice ab2 nb2 cb2] w4 from Below.trans HK3.out (hb4.mono (K2.size HK3.out)))
    have HW4 := Lib.hid (K2.base HK4.out)
    clear x0 y0 y1 y2 y3
    have hb1 := K2.box1 HK4.out
    have hb2 := K2.box2 HK4.out
    have x0 := cells_get hb1 0
    have y0 := cells_get hb2 0
    simp at x0 y0
    clear hb4 hb1 hb2 HC2
    cases q2 with
    | false =>
      obtain rfl := HE2.out (by trivial) rfl
      clear HE1 HE2 HE3 HE4
      go_wp2_with fail
      go_ret
      exact ⟨rfl, HW4.out⟩
    | true =>
      by_cases hkk : k1 = k2
      · obtain rfl := HE4.out (by trivial) (by trivial) hkk
        clear HE1 HE2 HE3 HE4
        subst hkk
        go_wp2_with fail
        go_ret
        exact ⟨rfl, HW4.out⟩
      · obtain rfl := HE3.out (by trivial) (by trivial) hkk
        clear HE1 HE2 HE3 HE4
        go_wp2_with fail
        go_ret
        exact ⟨rfl, HW4.out⟩

theorem alike_of {r s : R} (h : alikeC r s = 0) : okB r = true ∧ okB s = true ∧ r.tapes = s.tapes := by
  unfold alikeC at h
  by_cases h1 : okB r = true
  · rw [if_pos h1] at h
    by_cases h2 : okB s = true
    · rw [if_pos h2] at h
      by_cases h3 : r.tapes = s.tapes
      · exact ⟨h1, h2, h3⟩
      · rw [if_neg h3] at h; omega
    · rw [if_neg h2] at h; omega
  · rw [if_neg h1] at h; omega

set_option maxHeartbeats 8000000 in
theorem twoS (r s : R) (bp bq : Nat) (w : World) (B : Nat) (h : RelPtr w B bp r) (h' : RelPtr w B bq s) :
    Calls Try.prog 27 #[.pointer (some ⟨bp, 0, none⟩), .pointer (some ⟨bq, 0, none⟩)] w fun e w' => e = .returned (.int .i64 (alikeC r s)) ∧ ∃ m, w' = w.drewN m := by
  have HV1 := Lib.hid (fun m => specOk r bp (w.drewN m) B (h.drewN m))
  have HV2 := Lib.hid (fun m => specOk s bq (w.drewN m) B (h'.drewN m))
  have HV0 := Lib.hid (specOk r bp w B h)
  have HE1 := Lib.hid (show okB r = false → alikeC r s = 1 from fun h => by simp [alikeC, h])
  have HE2 := Lib.hid (show okB r = true → okB s = false → alikeC r s = 1 from fun h h2 => by simp [alikeC, h, h2])
  have HE3 := Lib.hid (show okB r = true → okB s = true → r.tapes ≠ s.tapes → alikeC r s = 2 from fun h h2 h3 => by simp [alikeC, h, h2, h3])
  have HE4 := Lib.hid (show okB r = true → okB s = true → r.tapes = s.tapes → alikeC r s = 0 from fun h h2 h3 => by simp [alikeC, h, h2, h3])
  obtain ⟨C, hC⟩ : ∃ x, x = alikeC r s := ⟨_, rfl⟩
  rw [← hC] at HE1 HE2 HE3 HE4
  rw [← hC]
  obtain ⟨q1, hq1⟩ : ∃ x, x = okB r := ⟨_, rfl⟩
  obtain ⟨q2, hq2⟩ : ∃ x, x = okB s := ⟨_, rfl⟩
  rw [← hq1] at HV0 HE1 HE2 HE3 HE4
  rw [← hq2] at HV2 HE2 HE3 HE4
  have x0 : w.cell? ⟨bp, 0, none⟩ = some (.int .i64 r.tapes) := by obtain ⟨-, -, c0, -⟩ := h; exact c0
  have y0 : w.cell? ⟨bq, 0, none⟩ = some (.int .i64 s.tapes) := by obtain ⟨-, -, c0, -⟩ := h'; exact c0
  obtain ⟨k1, hk1⟩ : ∃ x, x = r.tapes := ⟨_, rfl⟩
  obtain ⟨k2, hk2⟩ : ∃ x, x = s.tapes := ⟨_, rfl⟩
  rw [← hk1] at x0 HE3 HE4
  rw [← hk2] at y0 HE3 HE4
  have HX := Lib.hid (And.intro x0 y0)
  clear hC hq1 hq2 hk1 hk2 h h' HV1 x0 y0
  go_enter Try.func27, Try.ntmps27
  go_wp2_with fail
  refine HV0.out.mono ?_
  rintro e w3 ⟨rfl, m, rfl⟩
  cases q1 with
  | false =>
    obtain rfl := HE1.out rfl
    clear HE1 HE2 HE3 HE4 HV2 HV0
    go_wp2_with fail
    go_ret
    exact ⟨rfl, m, rfl⟩
  | true =>
    have HC2 := Lib.hid (HV2.out m)
    clear HV2 HV0
    go_wp2_with fail
    refine HC2.out.mono ?_
    rintro e w4 ⟨rfl, m2, rfl⟩
    have x0 : ((w.drewN m).drewN m2).cell? ⟨bp, 0, none⟩ = some (.int .i64 k1) := HX.out.1
    have y0 : ((w.drewN m).drewN m2).cell? ⟨bq, 0, none⟩ = some (.int .i64 k2) := HX.out.2
    have HW : Hid (∃ m3, (w.drewN m).drewN m2 = w.drewN m3) := Lib.hid ⟨m + m2, by unfold World.drewN; simp [Nat.add_assoc]⟩
    generalize (w.drewN m).drewN m2 = wq at x0 y0 HW ⊢
    clear HC2 HX
    cases q2 with
    | false =>
      obtain rfl := HE2.out (by trivial) rfl
      clear HE1 HE2 HE3 HE4
      go_wp2_with fail
      go_ret
      exact ⟨rfl, HW.out⟩
    | true =>
      by_cases hkk : k1 = k2
      · obtain rfl := HE4.out (by trivial) (by trivial) hkk
        clear HE1 HE2 HE3 HE4
        subst hkk
        go_wp2_with fail
        go_quiet (fail)
        go_wp2_with fail
        go_ret
        obtain ⟨m3, rfl⟩ := HW.out
        exact ⟨rfl, _, World.drewN_drewN ..⟩
      · obtain rfl := HE3.out (by trivial) (by trivial) hkk
        clear HE1 HE2 HE3 HE4
        have d4 : (k1 != k2) = true := by rw [bne_iff_ne]; exact hkk
        go_wp2_with fail
        go_quiet (fail)
        go_wp2_with fail
        go_ret
        obtain ⟨m3, rfl⟩ := HW.out
        exact ⟨rfl, _, World.drewN_drewN ..⟩

end Go.Proofs.Ytjplmmokbkkclaa.Alike
