
/- What the program answers where it looks whether a relation is valid.
   Conditions: the relation is read as XRel's text says. -/
import Derived.Test.YtaimealknkhfbaaDoorRB6
import Derived.Test.YtaimealknkhfbaaDoorRB22
import Derived.Test.YtaimealknkhfbaaDoorRB25
namespace Go.Proofs.YtaimealknkhfbaaDoor.ValidImpl
set_option linter.unusedVariables false
set_option linter.unusedSimpArgs false
open Go.RowKit Mem Rel Columns Valid

theorem okB_eq (r : R) : okB r = (inB r.tapes 1 3 && decide (1 ≤ (r.next.length : Int)) && decide ((r.next.length : Int) ≤ 150) && decide ((r.accept.length : Int) = r.next.length) &&
    decide (0 ≤ r.start) && decide (r.start < r.next.length) && r.next.all (rowOk (widthOf r.tapes) r.next.length)) := by
  unfold okB formB headB
  by_cases h : (r.accept.length : Int) = r.next.length
  · rw [h]
    by_cases a : (1 : Int) ≤ r.next.length <;> by_cases b : (r.next.length : Int) ≤ 150 <;> by_cases c : 0 ≤ r.start <;> by_cases d : r.start < r.next.length <;> cases inB r.tapes 1 3 <;>
      simp [inB, a, b, c, d] <;> omega
  · have h' : ¬ (r.next.length : Int) = r.accept.length := fun e => h e.symm
    simp [h, h']

set_option maxHeartbeats 2000000 in
theorem implValid_core (rt rs : Int) (ra : List Bool) (rn : List (List Int)) (n q : Nat) (HN : Hid (n = ra.length)) (HQ : Hid (q = rn.length)) (w : World) (B : Nat)
    (aa ab : Option Addr) (ca bb ob cb : Nat) (U : Nat → Value) (O : Obj) (hO : Hid (O = .cells #[.int .i64 rt, .int .i64 rs, .slice aa n ca, .slice ab q cb] 27))
    (hma : n ≤ 9223372036854775807) (hmb : q ≤ 9223372036854775807) (hbb : 0 < q → ab = some ⟨bb, ob, none⟩) (hcb : ∀ i, i < q → (w.alloc O).cell? ⟨bb, ob + i, none⟩ = some (U i)) (hU : ∀ i, i < q → Ints (w.alloc O) B (U i) (rn.getD i [])) :
    Calls Tryd.prog 19 #[.agg #[.int .i64 rt, .int .i64 rs, .slice aa n ca, .slice ab q cb]] w fun e w' => e = .returned (.bool (okB ⟨rt, rs, ra, rn⟩)) ∧ w.alloc O = w' := by
  have HF : Hid (okB ⟨rt, rs, ra, rn⟩ = (inB rt 1 3 && decide (1 ≤ (q : Int)) && decide ((q : Int) ≤ 150) && decide ((n : Int) = q) && decide (0 ≤ rs) && decide (rs < q) && rn.all (rowOk (widthOf rt) q))) := Lib.hid (by rw [HN.out, HQ.out]; exact okB_eq ⟨rt, rs, ra, rn⟩)
  obtain rfl := hO.out
  clear hO
  by_cases g1 : 1 ≤ rt ∧ rt ≤ 3
  · have d1 : decide (1 ≤ rt ∧ rt ≤ 3) = true := by simpa using g1
    by_cases g2 : 1 ≤ (q : Int)
    · have d2 : decide ((q : Int) < 1) = false := by simp; omega
      by_cases g3 : (q : Int) ≤ 150
      · have d3 : decide (150 < (q : Int)) = false := by simp; omega
        by_cases g4 : (n : Int) = q
        · have hqn : n = q := by omega
          subst hqn
          have d4 : ((n : Int) != (n : Int)) = false := by simp
          by_cases g5 : 0 ≤ rs
          · have d5 : decide (rs < 0) = false := by simp; omega
            by_cases g6 : rs < n
            · have d6 : decide ((n : Int) ≤ rs) = false := by simp; omega
              have HE2 := Lib.hid (show okB ⟨rt, rs, ra, rn⟩ = rn.all (rowOk (widthOf rt) n) by rw [HF.out]; simp [inB, g1, g2, g3, g5, g6])
              clear HF g4
              obtain ⟨hW0, hW1⟩ := width_bounds rt
              have r1 := g1.1
              have r3 := g1.2
              clear g1
              go_enter Tryd.func19, Tryd.ntmps19
              go_wp2_with (go_at_call 37; refine (validTapes _ _).mono ?_; rw [d1]; rintro e w' ⟨rfl, rfl⟩)
              clear d1 d2 d3 d5 d6
              go_loop [42] (fun i => ∃ k : Nat, k ≤ n ∧ i = .int .i64 k ∧ (rn.take k).all (rowOk (widthOf rt) n) = true) (fun i => n - (intOf i).toNat)
              case atStart => exact ⟨0, Nat.zero_le _, rfl, rfl⟩
              case round =>
                obtain ⟨k, hk, rfl, hg⟩ := hrel
                have HG := Lib.hid hg
                clear hg
                by_cases hlt : k < n
                · obtain rfl := hbb (by omega)
                  have cH := hcb k hlt
                  have hUk := hU k hlt
                  obtain ⟨x, hx⟩ : ∃ x, x = rn.getD k [] := ⟨_, rfl⟩
                  obtain ⟨u, hu⟩ : ∃ u, u = U k := ⟨_, rfl⟩
                  rw [← hu] at cH hUk
                  rw [← hx] at hUk
                  obtain ⟨ax, bx, ox, cx, hux, hmx, hxx, hcx⟩ := hUk
                  obtain ⟨p, hp⟩ : ∃ p, p = x.length := ⟨_, rfl⟩
                  rw [← hp] at hux hmx hxx hcx
                  rw [hux] at cH
                  unfold maxLen at hmx
                  have HP := Lib.hid hp
                  have HX := Lib.hid hx
                  clear hx hu hux hp hcb hU
                  have HC := Lib.hid (countAny rt r1 r3)
                  obtain ⟨W, hW⟩ : ∃ W, W = widthOf rt := ⟨_, rfl⟩
                  rw [← hW] at HC hW0 hW1 HE2 HG
                  have HW := Lib.hid hW
                  rw [← hW]
                  clear hW
                  by_cases hl : (p : Int) = W
                  · have hl1 : ((p : Int) != W) = false := by simp [hl]
                    have HPW := Lib.hid hl
                    clear hl
                    go_wp2_with (go_at_call 38; refine (HC.out _).mono ?_; rintro e w' ⟨rfl, rfl⟩)
                    go_loop [54] (fun j => ∃ l : Nat, l ≤ p ∧ j = .int .i64 l ∧ (x.take l).all (entryOk n) = true) (fun j => p - (intOf j).toNat)
                    case atStart => exact ⟨0, Nat.zero_le _, rfl, rfl⟩
                    case round =>
                      obtain ⟨l, hl, rfl, hgl⟩ := hrel
                      have HGL := Lib.hid hgl
                      clear hgl
                      by_cases hlp : l < p
                      · obtain rfl := (hxx (by omega)).1
                        have cY := hcx l hlp
                        obtain ⟨y, hy⟩ : ∃ y, y = x.getD l 0 := ⟨_, rfl⟩
                        rw [← hy] at cY
                        have HY := Lib.hid hy
                        clear hy hcx
                        by_cases ho : entryOk n y = true
                        · have HA := Lib.hid (all_take_succ x 0 (entryOk n) l (by rw [← HP.out]; exact hlp) HGL.out (by rw [← HY.out]; exact ho))
                          have ho' : 0 ≤ y ∧ y ≤ (n : Int) - 1 := by simpa [entryOk, inB] using ho
                          have t1 : decide (y < 0) = false := by simp; omega
                          have t2 : decide ((n : Int) ≤ y) = false := by simp; omega
                          clear ho ho'
                          go_wp2
                          go_round
                          case rel => exact ⟨l + 1, by omega, by go_num, HA.out⟩
                          case measure => simp [intOf]; omega
                        · have ho' : ¬ (0 ≤ y ∧ y ≤ (n : Int) - 1) := by simpa [entryOk, inB] using ho
                          have HA := Lib.hid (show okB ⟨rt, rs, ra, rn⟩ = false by
                            rw [HE2.out]
                            refine all_false rn [] _ k (by rw [← HQ.out]; exact hlt) ?_
                            rw [← HX.out]
                            unfold rowOk
                            rw [all_false x 0 (entryOk n) l (by rw [← HP.out]; exact hlp) (by rw [← HY.out]; simpa using ho)]
                            simp)
                          clear ho
                          by_cases hy0 : y < 0
                          · have t1 : decide (y < 0) = true := by simpa using hy0
                            go_wp2
                            go_ret
                            exact ⟨by rw [HA.out]; rfl, rfl⟩
                          · have t1 : decide (y < 0) = false := by simpa using hy0
                            have t2 : decide ((n : Int) ≤ y) = true := by simp; omega
                            go_wp2
                            go_ret
                            exact ⟨by rw [HA.out]; rfl, rfl⟩
                      · have HA := Lib.hid (all_take_succ rn [] (rowOk W n) k (by rw [← HQ.out]; exact hlt) HG.out (by
                          rw [← HX.out]
                          unfold rowOk
                          rw [all_end x (entryOk n) l (by rw [← HP.out]; omega) HGL.out, ← HP.out, decide_eq_true HPW.out]
                          rfl))
                        clear hcx hxx
                        go_wp2
                        go_round
                        case rel => exact ⟨k + 1, by omega, by go_num, HA.out⟩
                        case measure => simp [intOf]; omega
                  · have hl1 : ((p : Int) != W) = true := by rw [bne_iff_ne]; exact hl
                    have HS := Lib.hid (show okB ⟨rt, rs, ra, rn⟩ = false by
                      rw [HE2.out]
                      refine all_false rn [] _ k (by rw [← HQ.out]; exact hlt) ?_
                      rw [← HX.out]
                      unfold rowOk
                      rw [← HP.out, decide_eq_false hl]
                      rfl)
                    clear hl hcx hxx
                    go_wp2_with (go_at_call 38; refine (HC.out _).mono ?_; rintro e w' ⟨rfl, rfl⟩)
                    go_ret
                    exact ⟨by rw [HS.out]; rfl, rfl⟩
                · have HA := Lib.hid (show okB ⟨rt, rs, ra, rn⟩ = true by rw [HE2.out]; exact all_end rn _ k (by rw [← HQ.out]; omega) HG.out)
                  clear hcb hU
                  go_wp2
                  go_ret
                  exact ⟨by rw [HA.out]; rfl, rfl⟩
            · have HE := Lib.hid (show okB ⟨rt, rs, ra, rn⟩ = false by rw [HF.out]; simp [g6])
              have d6 : decide ((n : Int) ≤ rs) = true := by simp; omega
              clear HF HN HQ hU hcb g1 g6
              go_enter Tryd.func19, Tryd.ntmps19
              go_wp2_with (go_at_call 37; refine (validTapes _ _).mono ?_; rw [d1]; rintro e w' ⟨rfl, rfl⟩)
              go_ret
              exact ⟨by rw [HE.out]; rfl, rfl⟩
          · have HE := Lib.hid (show okB ⟨rt, rs, ra, rn⟩ = false by rw [HF.out]; simp [g5])
            have d5 : decide (rs < 0) = true := by simp; omega
            clear HF HN HQ hU hcb g1 g5
            go_enter Tryd.func19, Tryd.ntmps19
            go_wp2_with (go_at_call 37; refine (validTapes _ _).mono ?_; rw [d1]; rintro e w' ⟨rfl, rfl⟩)
            go_ret
            exact ⟨by rw [HE.out]; rfl, rfl⟩
        · have HE := Lib.hid (show okB ⟨rt, rs, ra, rn⟩ = false by rw [HF.out]; simp [g4])
          have d4 : ((n : Int) != (q : Int)) = true := by rw [bne_iff_ne]; exact g4
          clear HF HN HQ hU hcb g1 g4
          go_enter Tryd.func19, Tryd.ntmps19
          go_wp2_with (go_at_call 37; refine (validTapes _ _).mono ?_; rw [d1]; rintro e w' ⟨rfl, rfl⟩)
          go_ret
          exact ⟨by rw [HE.out]; rfl, rfl⟩
      · have HE := Lib.hid (show okB ⟨rt, rs, ra, rn⟩ = false by rw [HF.out]; simp [g3])
        have d3 : decide (150 < (q : Int)) = true := by simp; omega
        clear HF HN HQ hU hcb g1 g3
        go_enter Tryd.func19, Tryd.ntmps19
        go_wp2_with (go_at_call 37; refine (validTapes _ _).mono ?_; rw [d1]; rintro e w' ⟨rfl, rfl⟩)
        go_ret
        exact ⟨by rw [HE.out]; rfl, rfl⟩
    · have HE := Lib.hid (show okB ⟨rt, rs, ra, rn⟩ = false by rw [HF.out]; simp [g2])
      have d2 : decide ((q : Int) < 1) = true := by simp; omega
      clear HF HN HQ hU hcb g1 g2
      go_enter Tryd.func19, Tryd.ntmps19
      go_wp2_with (go_at_call 37; refine (validTapes _ _).mono ?_; rw [d1]; rintro e w' ⟨rfl, rfl⟩)
      go_ret
      exact ⟨by rw [HE.out]; rfl, rfl⟩
  · have d1 : decide (1 ≤ rt ∧ rt ≤ 3) = false := by simpa using g1
    have HE := Lib.hid (show okB ⟨rt, rs, ra, rn⟩ = false by rw [HF.out]; simp [inB, g1])
    clear HF HN HQ hU hcb g1
    go_enter Tryd.func19, Tryd.ntmps19
    go_wp2_with (go_at_call 37; refine (validTapes _ _).mono ?_; rw [d1]; rintro e w' ⟨rfl, rfl⟩)
    go_ret
    exact ⟨by rw [HE.out]; rfl, rfl⟩

theorem implValid (v : Value) (r : R) (w : World) (B : Nat) (h : RelAt w B v r) (hB : B ≤ w.heap.size) :
    Calls Tryd.prog 19 #[v] w fun e w' => e = .returned (.bool (okB r)) ∧ Below w.heap.size w w' := by
  obtain ⟨va, vn, rfl, ha, hn⟩ := h
  obtain ⟨O, hO⟩ : ∃ O : Obj, O = .cells #[.int .i64 r.tapes, .int .i64 r.start, va, vn] 27 := ⟨_, rfl⟩
  have hb : Below w.heap.size w (w.alloc O) := (Below.refl _ _).alloc (Nat.le_refl _) _
  have hn2 := hn.below hb hB
  obtain ⟨aa, ba, oa, ca, rfl, hma, -, -⟩ := ha
  obtain ⟨U, ⟨ab, bb, ob, cb, rfl, hmb, hbb, hcb⟩, hU⟩ := hn2
  refine (implValid_core r.tapes r.start r.accept r.next _ _ (Lib.hid rfl) (Lib.hid rfl) w B aa ab ca bb ob cb U O (Lib.hid hO) hma hmb (fun h => (hbb h).1) hcb hU).mono fun e w' ⟨he, hw⟩ => ⟨he, hw ▸ hb⟩
end Go.Proofs.YtaimealknkhfbaaDoor.ValidImpl
/- What the program's OppositeRelation answers: a relation in memory of its own, and a code.
   Conditions: the relation is read as XRel's text says; the type's handle lies where errors.As reads it. -/
namespace Go.Proofs.YtaimealknkhfbaaDoor.OppImpl
set_option linter.unusedVariables false
set_option linter.unusedSimpArgs false
set_option maxRecDepth 100000
open Go.RowKit Mem Copy Rel Valid Heap Columns Bld TidyAuto TidyRight SpecRight ToL SpecTidyRel ImplRight ImplTidied CloneB ErrAs ErrCode

/-- The automaton that takes what another one does not. -/
def flipL (l : L) : L := { l with acc := l.acc.map fun b => !b }
def flipR (r : R) : R := { r with accept := r.accept.map fun b => !b }
theorem flipL_ok {l : L} (h : l.Ok) : (flipL l).Ok := by
  have e : (flipL l).acc.length = l.acc.length := by simp [flipL]
  exact ⟨h.k0, h.k3, by rw [e]; exact h.st, by rw [e]; exact h.len, fun s hs => h.row s (by rw [e] at hs; exact hs), fun s hs c hc => by rw [e] at hs ⊢; exact h.lt s hs c hc⟩
theorem flip_rel {r : R} (h : relOf (toL r) = r) : relOf (flipL (toL r)) = flipR r := by
  unfold flipR
  conv => rhs; rw [← h]
  rfl

/-- Truth values by a rule. -/
def bvF (n : Nat) (f : Nat → Bool) : List Value := (List.range n).map fun i => Value.bool (f i)
theorem bvF_length (n : Nat) (f : Nat → Bool) : (bvF n f).length = n := by simp [bvF]
theorem bvF_set (n : Nat) (f : Nat → Bool) (k : Nat) (x : Bool) : (bvF n f).set k (.bool x) = bvF n fun i => if i = k then x else f i := by
  apply List.ext_getElem
  · simp [bvF]
  · intro i h1 h2
    simp [bvF, List.getElem_set]
    by_cases e : k = i
    · simp [e]
    · simp [e, Ne.symm e]
theorem bvF_congr {n : Nat} {f g : Nat → Bool} (h : ∀ i, i < n → f i = g i) : bvF n f = bvF n g :=
  List.map_congr_left fun i hi => by rw [h i (List.mem_range.1 hi)]
theorem bvF_list (xs : List Bool) : xs.map Value.bool = bvF xs.length fun i => xs.getD i false := by
  apply List.ext_getElem
  · simp [bvF]
  · intro i h1 h2
    have h3 : i < xs.length := by simpa using h1
    simp [bvF, List.getD, h3]
theorem bvF_flip (xs : List Bool) : bvF xs.length (fun i => !xs.getD i false) = (xs.map fun b => !b).map Value.bool := by
  apply List.ext_getElem
  · simp [bvF]
  · intro i h1 h2
    have h3 : i < xs.length := by simpa [bvF] using h1
    simp [bvF, List.getD, h3]

/-- An outcome: the relation, or nothing and the code of a limit. -/
theorem outcomeI (Q : Bool) (K : Int) (aa ab : Option Addr) (na ca nb cb : Nat) (n : Int) (w : World) (hg : Laid w) (B : Nat) (A : List Bool) (N : List (List Int)) (hbu : Built w B (.slice aa na ca) (.slice ab nb cb) A N) (h0 : Q = false → K = 0 ∧ A = [] ∧ N = []) :
    Calls Tryd.prog 20 #[.agg #[.int .i64 K, .int .i64 0, .slice aa na ca, .slice ab nb cb], errV Q n] w fun e w' => ∃ va vn, e = .returned (.tuple #[.agg #[.int .i64 K, .int .i64 0, va, vn], .int .i64 (if Q = true then 0 else 3)]) ∧ Built w' B va vn A N ∧ Below w.heap.size w w' := by
  cases Q with
  | true => exact (outcome_ok K aa ab na ca nb cb w).mono fun e w' ⟨he, hb⟩ => ⟨_, _, he, hbu.below hb, hb⟩
  | false =>
    obtain ⟨rfl, rfl, rfl⟩ := h0 rfl
    exact (outcome_no 0 aa ab na ca nb cb w n hg).mono fun e w' ⟨he, hb⟩ => ⟨_, _, he, ImplTidied.built_none _ _, hb⟩

def oppC (r : R) : Int := if okB r = true then (if fewB (flipL (toL r)) 150 = true then 0 else 3) else 1
def oppK (r : R) : Int := if okB r = true then fewK (flipL (toL r)) 150 else 0
def oppA (r : R) : List Bool := if okB r = true then fewA (flipL (toL r)) 150 else []
def oppN (r : R) : List (List Int) := if okB r = true then fewN (flipL (toL r)) 150 else []
theorem opp_of {r : R} (h : okB r = true) : oppK r = fewK (flipL (toL r)) 150 ∧ oppA r = fewA (flipL (toL r)) 150 ∧ oppN r = fewN (flipL (toL r)) 150 ∧ oppC r = if fewB (flipL (toL r)) 150 = true then 0 else 3 :=
  ⟨if_pos h, if_pos h, if_pos h, if_pos h⟩

end Go.Proofs.YtaimealknkhfbaaDoor.OppImpl
