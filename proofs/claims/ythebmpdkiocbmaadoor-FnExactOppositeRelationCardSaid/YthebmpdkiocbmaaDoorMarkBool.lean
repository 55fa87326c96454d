
/- Rows of truth values that a law marks and looks at.
   Conditions: stated at each theorem. -/
import Derived.Test.YthebmpdkiocbmaaDoorMarkRow
namespace Go.Proofs.YthebmpdkiocbmaaDoor.MarkBool
set_option linter.unusedVariables false
set_option linter.unusedSimpArgs false
open Go.RowKit Mem Copy Rel MarkRow

/-- The mark with the number k. -/
def markB (k : Nat) : Bool := ((k : Int) % 3 == 0)

set_option maxHeartbeats 1000000 in
theorem markBools (v : Value) (n : Nat) (f : Nat → Value) (k : Nat) (lo : Nat) (w : World) (hr : Row w lo 4 v n f) (hn : n ≤ 1048576) (hk : k ≤ 100000000) :
    Calls Tryd.prog 44 #[v, .int .i64 k] w fun e w' => e = .returned (.int .i64 ((k + n : Nat) : Int)) ∧ Row w' lo 4 v n (fun i => .bool (markB (k + i))) ∧ ((0 < n ∧ w.grownBy w' v.ownBlock) ∨ w = w') := by
  obtain ⟨a, cap, rfl, hr⟩ := hr
  by_cases h0 : n = 0
  · subst h0
    clear hr
    go_enter Tryd.func44, Tryd.ntmps44
    go_wp2
    refine wp_loop_rounds 1 ?_
    rw [rounds_succ]
    go_wp2
    go_ret
    exact ⟨rfl, ⟨_, _, rfl, fun h => absurd h (Nat.lt_irrefl 0)⟩, .inr rfl⟩
  · obtain ⟨g, m, F, rfl, hlo, hnm, hrow, -⟩ := hr (by omega)
    have hg0 : g < w.heap.size := hrow.lt
    go_enter Tryd.func44, Tryd.ntmps44
    go_wp2
    go_loopw [1, 5] (fun kk i wr => ∃ j : Nat, j ≤ n ∧ i = .int .i64 j ∧ kk = .int .i64 ((k + j : Nat) : Int) ∧ wr.rowIs g 4 m (fun i => if i < j then .bool (markB (k + i)) else F i) ∧ w.grownBy wr (some g)) (fun _ i _ => n - (intOf i).toNat)
    case atStart => exact ⟨0, Nat.zero_le _, rfl, rfl, hrow.congr fun i hi => by rw [if_neg (Nat.not_lt_zero i)], grown_refl _ _⟩
    case round =>
      obtain ⟨j, hj, rfl, rfl, hrw, hgr⟩ := hrel
      have HR := Lib.hid hrw
      have HG := Lib.hid hgr
      by_cases hlt : j < n
      · have cN := hrw.cell (show j < m by omega)
        have fN := hrw.frozen j
        rw [if_neg (Nat.lt_irrefl j)] at cN
        obtain ⟨x, hx⟩ : ∃ x, x = F j := ⟨_, rfl⟩
        rw [← hx] at cN
        clear hrw hgr hr hrow hx
        go_wp2
        go_roundw
        case rel =>
          refine ⟨j + 1, hlt, by go_num, by go_num, (HR.out.set j _).congr fun i hi => ?_, grown_set HG.out _ _⟩
          by_cases e : i = j
          · subst e; simp [markB]
          · have h1 : (i < j + 1) = (i < j) := by apply propext; constructor <;> intro h <;> omega
            simp only [if_neg e, h1]
        case measure => simp [intOf]; omega
      · obtain rfl : j = n := by omega
        clear hrw hgr hr hrow
        go_wp2
        go_ret
        exact ⟨rfl, ⟨_, _, rfl, fun _ => ⟨g, m, _, rfl, hlo, hnm, HR.out, fun i hi => if_pos hi⟩⟩, .inl ⟨by omega, HG.out⟩⟩

set_option maxHeartbeats 1000000 in
theorem heldBools (v : Value) (n : Nat) (k : Nat) (B : Nat) (w : World) (hr : Sl w B v n (fun i => .bool (markB (k + i)))) (hn : n ≤ 1048576) (hk : k ≤ 100000000) :
    Calls Tryd.prog 46 #[v, .int .i64 k] w fun e w' => e = .returned (.int .i64 ((k + n : Nat) : Int)) ∧ w = w' := by
  obtain ⟨a, b, off, cap, rfl, -, ha, hc⟩ := hr
  go_enter Tryd.func46, Tryd.ntmps46
  go_wp2
  go_loop [1, 5] (fun kk i => ∃ j : Nat, j ≤ n ∧ i = .int .i64 j ∧ kk = .int .i64 ((k + j : Nat) : Int)) (fun _ i => n - (intOf i).toNat)
  case atStart => exact ⟨0, Nat.zero_le _, rfl, rfl⟩
  case round =>
    obtain ⟨j, hj, rfl, rfl⟩ := hrel
    by_cases hlt : j < n
    · obtain rfl := (ha (by omega)).1
      have cA : w.cell? ⟨b, off + j, none⟩ = some (.bool (markB (k + j))) := hc j hlt
      unfold markB at cA
      cases hm : (((k + j : Nat) : Int) % 3 == 0) with
      | true =>
        rw [hm] at cA
        have hm2 : (((k : Int) + (j : Int)) % 3 == 0) = true := by rw [← Int.natCast_add]; exact hm
        have hm3 : (((k : Int) + (j : Int)) % 3 = 0) = True := by simpa using hm2
        clear hc ha hm
        go_wp2
        go_round
        case rel => exact ⟨j + 1, hlt, by go_num, by go_num⟩
        case measure => simp [intOf]; omega
      | false =>
        rw [hm] at cA
        have hm2 : (((k : Int) + (j : Int)) % 3 == 0) = false := by rw [← Int.natCast_add]; exact hm
        have hm3 : (((k : Int) + (j : Int)) % 3 = 0) = False := by simpa using hm2
        clear hc ha hm
        go_wp2
        go_round
        case rel => exact ⟨j + 1, hlt, by go_num, by go_num⟩
        case measure => simp [intOf]; omega
    · obtain rfl : j = n := by omega
      clear hc ha
      go_wp2
      go_ret
      exact ⟨rfl, rfl⟩
end Go.Proofs.YthebmpdkiocbmaaDoor.MarkBool
