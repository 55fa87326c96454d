
/- Rows of texts that a law marks and looks at.
   Conditions: stated at each theorem. -/
import Derived.Test.YticpmakpajnilaaMarkRow
import Derived.Test.YticpmakpajnilaaStrs
import Derived.Test.YticpmakpajnilaaMark
namespace Go.Proofs.Yticpmakpajnilaa.MarkStrs
open Go.RowKit Mem Copy Rel Strs MarkT MarkRow

set_option maxHeartbeats 1000000 in
theorem markStrs (v : Value) (n : Nat) (f : Nat → Value) (k : Nat) (lo : Nat) (w : World) (hr : Row w lo 9 v n f) (hn : n ≤ 1048576) (h1 : 1 ≤ k) (hk : k ≤ 1048576) :
    Calls Try.prog 34 #[v, .int .i64 k] w fun e w' => e = .returned (.int .i64 ((k + n : Nat) : Int)) ∧ Row w' lo 9 v n (fun i => .string (markS (k + i))) ∧ w.grownBy w' v.ownBlock := by
  obtain ⟨a, cap, rfl, hr⟩ := hr
  by_cases h0 : n = 0
  · subst h0
    clear hr
    go_enter Try.func34, Try.ntmps34
    go_wp2
    refine wp_loop_rounds 1 ?_
    rw [rounds_succ]
    go_wp2
    go_ret
    exact ⟨rfl, ⟨_, _, rfl, fun h => absurd h (Nat.lt_irrefl 0)⟩, grown_refl _ _⟩
  · obtain ⟨g, m, F, rfl, hlo, hnm, hrow, -⟩ := hr (by omega)
    have hg0 : g < w.heap.size := hrow.lt
    go_enter Try.func34, Try.ntmps34
    go_wp2
    go_loopw [1, 5] (fun kk i wr => ∃ j : Nat, j ≤ n ∧ i = .int .i64 j ∧ kk = .int .i64 ((k + j : Nat) : Int) ∧ wr.rowIs g 9 m (fun i => if i < j then .string (markS (k + i)) else F i) ∧ w.grownBy wr (some g)) (fun _ i _ => n - (intOf i).toNat)
    case atStart => exact ⟨0, Nat.zero_le _, rfl, rfl, hrow.congr fun i hi => by rw [if_neg (Nat.not_lt_zero i)], grown_refl _ _⟩
    case round =>
      obtain ⟨j, hj, rfl, rfl, hrw, hgr⟩ := hrel
      have HR := Lib.hid hrw
      have HG := Lib.hid hgr
      by_cases hlt : j < n
      · have cN0 := hrw.cell (show j < m by omega)
        have fN0 := hrw.frozen j
        have hlg := hrw.lt
        rw [if_neg (Nat.lt_irrefl j)] at cN0
        obtain ⟨x, hx⟩ : ∃ x, x = F j := ⟨_, rfl⟩
        rw [← hx] at cN0
        have HMT := Lib.hid (markText (k + j) wr (by omega) (by omega))
        clear hrw hgr hr hrow hx
        go_wp2_with fail
        refine HMT.out.mono ?_
        rintro e w1 ⟨rfl, hb⟩
        have cN := (hb.cell (p := ⟨g, j, none⟩) hlg).trans cN0
        have fN := (hb.frozen (p := ⟨g, j, none⟩) hlg).trans fN0
        have HB := Lib.hid hb
        clear hb cN0 fN0 HMT
        go_wp2
        go_roundw
        case rel =>
          refine ⟨j + 1, hlt, by go_num, by go_num, ((rowIs_below HR.out HB.out hlg).set j _).congr fun i hi => ?_, grown_set (grown_below HG.out HB.out) _ _⟩
          by_cases e : i = j
          · subst e; simp
          · have h1 : (i < j + 1) = (i < j) := by apply propext; constructor <;> intro h <;> omega
            simp only [if_neg e, h1]
        case measure => simp [intOf]; omega
      · obtain rfl : j = n := by omega
        clear hrw hgr hr hrow
        go_wp2
        go_ret
        exact ⟨rfl, ⟨_, _, rfl, fun _ => ⟨g, m, _, rfl, hlo, hnm, HR.out, fun i hi => if_pos hi⟩⟩, HG.out⟩

set_option maxHeartbeats 1000000 in
theorem heldStrs (v : Value) (n : Nat) (k : Nat) (B : Nat) (w : World) (hr : Sl w B v n (fun i => .string (markS (k + i)))) (hB : B ≤ w.heap.size) (hn : n ≤ 1048576) (h1 : 1 ≤ k) (hk : k ≤ 1048576) :
    Calls Try.prog 42 #[v, .int .i64 k] w fun e w' => e = .returned (.int .i64 ((k + n : Nat) : Int)) ∧ Below w.heap.size w w' := by
  obtain ⟨a, b, off, cap, rfl, -, ha, hc⟩ := hr
  go_enter Try.func42, Try.ntmps42
  go_wp2
  go_loopw [1, 5] (fun kk i wr => ∃ j : Nat, j ≤ n ∧ i = .int .i64 j ∧ kk = .int .i64 ((k + j : Nat) : Int) ∧ Below w.heap.size w wr) (fun _ i _ => n - (intOf i).toNat)
  case atStart => exact ⟨0, Nat.zero_le _, rfl, rfl, Below.refl _ _⟩
  case round =>
    obtain ⟨j, hj, rfl, rfl, hbel⟩ := hrel
    have HB := Lib.hid hbel
    by_cases hlt : j < n
    · obtain rfl := (ha (by omega)).1
      have hbB := (ha (by omega)).2
      have cA := (hbel.cell (p := ⟨b, off + j, none⟩) (by show b < _; omega)).trans (hc j hlt)
      obtain ⟨s, hs⟩ : ∃ s, s = markS (k + j) := ⟨_, rfl⟩
      have HMT := Lib.hid (fun W => markText (k + j) W (by omega) (by omega))
      rw [← hs] at cA HMT
      have hself : (s.toList == s.toList) = true := by simp
      have hlb : b < wr.heap.size := by have := hbel.size; omega
      clear hc ha hs hbel
      go_wp2_with fail
      go_region_with (go_at_call 75; refine (HMT.out _).mono ?_; rintro e w1 ⟨rfl, hb⟩; have HB1 := Lib.hid (base_step HB.out.drew hb); have cN := (hb.cell (p := ⟨b, off + j, none⟩) hlb).trans cA; clear hb)
      all_goals
        go_wp2
        go_roundw
        case rel => exact ⟨j + 1, hlt, by go_num, by go_num, HB1.out⟩
        case measure => simp [intOf]; omega
    · obtain rfl : j = n := by omega
      clear hc ha hbel
      go_wp2
      go_ret
      exact ⟨rfl, HB.out⟩
end Go.Proofs.Yticpmakpajnilaa.MarkStrs
