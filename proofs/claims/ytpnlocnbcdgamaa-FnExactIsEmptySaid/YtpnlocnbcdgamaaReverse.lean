
/- What the library's function that reverses a list of numbers does to a list of one's own.
   Conditions: stated at each theorem. -/
import Derived.Test.YtpnlocnbcdgamaaHeap
import Derived.RegionTactic
import Derived.ChangeAlike
import Derived.BigRegion
namespace Go.Proofs.Ytpnlocnbcdgamaa.Reverse
set_option linter.unusedVariables false
set_option linter.unusedSimpArgs false
open Go.RowKit Mem Copy Heap

/-- The first and the last k numbers have been exchanged. -/
def swp (k n : Nat) (T : Nat → Int) (i : Nat) : Int := if i < k ∨ n - k ≤ i then T (n - 1 - i) else T i
theorem swp_zero (n : Nat) (T : Nat → Int) {i : Nat} (h : i < n) : swp 0 n T i = T i := by unfold swp; rw [if_neg (by omega)]
theorem swp_end {k n : Nat} (h : n ≤ 2 * k + 1) (T : Nat → Int) {i : Nat} (hi : i < n) : swp k n T i = T (n - 1 - i) := by
  unfold swp
  split
  · rfl
  · rw [show n - 1 - i = i by omega]
theorem swp_next {k n : Nat} (h : 2 * k + 1 < n) (T : Nat → Int) :
    ((tv n (swp k n T)).set k (.int .i64 (swp k n T (n - 1 - k)))).set (n - 1 - k) (.int .i64 (swp k n T k)) = tv n (swp (k + 1) n T) := by
  rw [tv_set, tv_set]
  refine tv_congr fun i hi => ?_
  unfold swp
  by_cases h1 : i = n - 1 - k
  · subst h1
    rw [if_pos rfl, if_neg (by omega), if_pos (by omega)]
    congr 1; omega
  · rw [if_neg h1]
    by_cases h2 : i = k
    · subst h2
      rw [if_pos rfl, if_neg (by omega), if_pos (by omega)]
    · rw [if_neg h2]
      by_cases h3 : i < k ∨ n - k ≤ i
      · rw [if_pos h3, if_pos (by omega)]
      · rw [if_neg h3, if_neg (by omega)]
theorem swp_next' {k n : Nat} (h : 2 * k + 1 < n) (T : Nat → Int) :
    ((tv n (swp k n T)).set (n - 1 - k) (.int .i64 (swp k n T k))).set k (.int .i64 (swp k n T (n - 1 - k))) = tv n (swp (k + 1) n T) := by
  rw [List.set_comm _ _ (by omega)]; exact swp_next h T

set_option maxRecDepth 100000 in
set_option maxHeartbeats 4000000 in
theorem reverse (w : World) (B : Nat) (v : Value) (n : Nat) (T : Nat → Int) (h : Lst w B 2 v (tv n T)) (hB : B ≤ w.heap.size) (hn : n ≤ 100000000) :
    Calls Try.prog 75 #[v] w fun e w' => e = .returned (.tuple #[]) ∧ Lst w' B 2 v (tv n fun i => T (n - 1 - i)) ∧ Below B w w' := by
  by_cases h0 : 0 < n
  · obtain ⟨g, cap, rfl, hg, -, hf⟩ := h.view (by rw [tv_length]; exact h0)
    rw [tv_length] at h ⊢
    have HL := Lib.hid (show Lst w B 2 (.slice (some ⟨g, 0, none⟩) n cap) (tv n (swp 0 n T)) by rw [tv_congr (S := T) (fun i hi => swp_zero n T hi)]; exact h)
    have HG := Lib.hid (Below.refl B w)
    clear hf h
    have hw0 : IntKind.i64.wrap ((n : Int) - 1) = (n : Int) - 1 := by rw [IntKind.wrap_i64]; omega
    go_enter Try.func75, Try.ntmps75
    go_wp2_with fail
    go_loopw [2, 3] (fun a b wr => ∃ k : Nat, 2 * k ≤ n + 1 ∧ a = .int .i64 k ∧ b = .int .i64 ((n : Int) - 1 - k) ∧ Lst wr B 2 (.slice (some ⟨g, 0, none⟩) n cap) (tv n (swp k n T)) ∧ Below B w wr) (fun a b _ => n - (intOf a).toNat)
    case atStart => exact ⟨0, by omega, rfl, by simp, HL.out, HG.out⟩
    case round =>
      obtain ⟨k, hk, rfl, rfl, hl, hgr⟩ := hrel
      have HL1 := Lib.hid hl
      have HG1 := Lib.hid hgr
      by_cases hlt : 2 * k + 1 < n
      · have c1 := hl.cellOf (i := k) (by rw [tv_length]; omega)
        have c2 := hl.cellOf (i := n - 1 - k) (by rw [tv_length]; omega)
        rw [tv_get] at c1 c2
        have f1 := hl.free k
        have f2 := hl.free (n - 1 - k)
        have lg := hl.lt (k := g) rfl
        obtain ⟨j, hj⟩ : ∃ j, j = n - 1 - k := ⟨_, rfl⟩
        have HJ := Lib.hid hj
        have ej : ((n : Int) - 1 - (k : Int)) = (j : Int) := by omega
        rw [← hj] at c2 f2
        rw [ej]
        have hkj : k ≠ j := by omega
        have hjk : j ≠ k := by omega
        have hjn : j < n := by omega
        have hkn : k < n := by omega
        have hkj' : k < j := by omega
        have hwk : IntKind.i64.wrap ((k : Int) + 1) = (k : Int) + 1 := by rw [IntKind.wrap_i64]; omega
        have hwj : IntKind.i64.wrap ((j : Int) - 1) = (j : Int) - 1 := by rw [IntKind.wrap_i64]; omega
        have HLT := Lib.hid hlt
        clear hl hgr hj ej HL HG hlt hw0
        go_wp2_with fail
        go_region
        all_goals
          go_wp2_with fail
          go_roundw
          case rel =>
            have hl2 := HL1.out
            refine ⟨k + 1, by have := HLT.out; omega, by go_num, by have := HJ.out; have := HLT.out; congr 1; omega, ?_, ?_⟩
            · first
                | exact (show Lst _ _ _ _ _ from by
                    have h1 := (hl2.set (i := k) (by rw [tv_length]; exact hkn) (.int .i64 (swp k n T j))).set (i := j) (by rw [List.length_set, tv_length]; exact hjn) (.int .i64 (swp k n T k))
                    rw [HJ.out, swp_next HLT.out, ← HJ.out] at h1
                    exact h1.drew)
                | exact (show Lst _ _ _ _ _ from by
                    have h1 := (hl2.set (i := j) (by rw [tv_length]; exact hjn) (.int .i64 (swp k n T k))).set (i := k) (by rw [List.length_set, tv_length]; exact hkn) (.int .i64 (swp k n T j))
                    rw [HJ.out, swp_next' HLT.out, ← HJ.out] at h1
                    exact h1.drew)
            · exact ((HG1.out.setCell (hl2.ge (k := g) rfl) _).setCell (hl2.ge (k := g) rfl) _).drew
          case measure => simp [intOf]; omega
      · have d1 : decide ((k : Int) < (n : Int) - 1 - (k : Int)) = false := by simp; omega
        have HEQ := Lib.hid (show tv n (swp k n T) = tv n fun i => T (n - 1 - i) from tv_congr fun i hi => swp_end (by omega) T hi)
        clear hl hgr HL HG hlt hw0
        go_wp2_with fail
        go_end0
        exact ⟨rfl, by rw [← HEQ.out]; exact HL1.out, HG1.out⟩
  · obtain rfl : n = 0 := by omega
    have HL := Lib.hid h
    obtain ⟨a, m, cap, rfl, hm⟩ := h.shape'
    have hm0 : m = 0 := hm
    subst hm0
    have HE := Lib.hid (show (tv 0 fun i => T (0 - 1 - i)) = tv 0 T from rfl)
    clear h hm h0
    go_enter Try.func75, Try.ntmps75
    go_wp2_with fail
    refine wp_loop_rounds 1 ?_
    rw [rounds_succ]
    go_wp2_with fail
    go_end0
    exact ⟨rfl, by rw [HE.out]; exact HL.out, Below.refl _ _⟩
end Go.Proofs.Ytpnlocnbcdgamaa.Reverse
