
/- Transducers that a law marks and looks at.
   Conditions: stated at each theorem. -/
import Derived.Test.YtjoiaenkmmmmpaaTrHeap
import Derived.Test.YtjoiaenkmmmmpaaMarkBool
import Derived.Test.YtjoiaenkmmmmpaaMark
import Derived.Deep.RegionWith
import Derived.Deep.DeepCutAuto
import Derived.Deep.CutBlock
namespace Go.Proofs.Ytjoiaenkmmmmpaa.TrMark
set_option linter.unusedVariables false
set_option linter.unusedSimpArgs false
open Go.RowKit Mem Copy Rel Heap MarkRow MarkBool MarkT Edg EdgCopy TrHeap

/-- The marks in the cells of a row of edges. -/
def markF (k i : Nat) : Value := if i % 4 < 2 then .int .i64 ((k + i : Nat) : Int) else .string (markS (k + i))

theorem markText' (x : Int) (k : Nat) (hx : x = (k : Int)) (w : World) (h1 : 1 ≤ k) (h2 : k ≤ 8388608) :
    Calls Try.prog 79 #[.int .i64 x] w fun e w' => e = .returned (.string (markS k)) ∧ Below w.heap.size w w' := by
  subst hx; exact markText k w h1 h2

theorem stepM (k p j : Nat) (hp : p = k + j * 4) (g : Nat → Value) (i : Nat) :
    (if i = j * 4 + 3 then Value.string (markS (p + 3)) else if i = j * 4 + 2 then Value.string (markS (p + 2)) else if i = j * 4 + 1 then Value.int .i64 ((p : Int) + 1) else if i = j * 4 then Value.int .i64 (p : Int) else if i < j * 4 then markF k i else g i) = if i < (j + 1) * 4 then markF k i else g i := by
  subst hp
  by_cases h3 : i = j * 4 + 3
  · subst h3
    rw [if_pos rfl, if_pos (by omega)]; unfold markF; rw [if_neg (by omega)]; congr 2
  · rw [if_neg h3]
    by_cases h2 : i = j * 4 + 2
    · subst h2
      rw [if_pos rfl, if_pos (by omega)]; unfold markF; rw [if_neg (by omega)]; congr 2
    · rw [if_neg h2]
      by_cases h1 : i = j * 4 + 1
      · subst h1
        rw [if_pos rfl, if_pos (by omega)]; unfold markF; rw [if_pos (by omega)]; congr 1
      · rw [if_neg h1]
        by_cases h0 : i = j * 4
        · subst h0
          rw [if_pos rfl, if_pos (by omega)]; unfold markF; rw [if_pos (by omega)]
        · rw [if_neg h0]
          by_cases hl : i < j * 4
          · rw [if_pos hl, if_pos (by omega)]
          · rw [if_neg hl, if_neg (by omega)]

set_option maxHeartbeats 2000000 in
theorem markEdges (v : Value) (n : Nat) (f : Nat → Value) (k : Nat) (lo : Nat) (w : World) (hr : RowE w lo v n f) (hn : n ≤ 1048576) (h1 : 1 ≤ k) (hk : k + n * 4 ≤ 8388600) :
    Calls Try.prog 50 #[v, .int .i64 k] w fun e w' => e = .returned (.int .i64 ((k + n * 4 : Nat) : Int)) ∧ RowE w' lo v n (markF k) ∧ ((0 < n ∧ w.grownBy w' v.ownBlock) ∨ w = w') := by
  obtain ⟨a, cap, rfl, b', c', hv, hr⟩ := hr
  cases hv
  by_cases h0 : n = 0
  · subst h0
    clear hr
    go_enter Try.func50, Try.ntmps50
    go_wp2
    refine wp_loop_rounds 1 ?_
    rw [rounds_succ]
    go_wp2
    go_ret
    exact ⟨rfl, ⟨_, _, rfl, _, _, rfl, fun h => absurd h (Nat.lt_irrefl 0)⟩, .inr rfl⟩
  · obtain ⟨g, m, F, rfl, hlo, hnm, hrow, -⟩ := hr (by omega)
    have hg0 : g < w.heap.size := hrow.lt
    go_enter Try.func50, Try.ntmps50
    go_wp2
    go_loopw [1, 5] (fun kk i wr => ∃ j p : Nat, j ≤ n ∧ i = .int .i64 j ∧ kk = .int .i64 (p : Int) ∧ p = k + j * 4 ∧ wr.rowIs g 50 m (fun i => if i < j * 4 then markF k i else F i) ∧ w.grownBy wr (some g)) (fun _ i _ => n - (intOf i).toNat)
    case atStart => exact ⟨0, k, Nat.zero_le _, rfl, rfl, by omega, hrow.congr fun i hi => by rw [if_neg (by omega)], grown_refl _ _⟩
    case round =>
      obtain ⟨j, p, hj, rfl, rfl, hp, hrw, hgr⟩ := hrel
      have HR := Lib.hid hrw
      have HG := Lib.hid hgr
      have HP := Lib.hid hp
      have hp1 : 1 ≤ p := by omega
      have hp2 : p ≤ 8388600 := by omega
      clear hp
      by_cases hlt : j < n
      · have hlg := hrw.lt
        have c0 := hrw.cell (show j * 4 < m by omega)
        have c1 := hrw.cell (show j * 4 + 1 < m by omega)
        rw [if_neg (by omega)] at c0 c1
        have f0 := hrw.frozen (j * 4)
        have f1 := hrw.frozen (j * 4 + 1)
        obtain ⟨x0, hx0⟩ : ∃ x, x = F (j * 4) := ⟨_, rfl⟩
        obtain ⟨x1, hx1⟩ : ∃ x, x = F (j * 4 + 1) := ⟨_, rfl⟩
        obtain ⟨x2, hx2⟩ : ∃ x, x = F (j * 4 + 2) := ⟨_, rfl⟩
        obtain ⟨x3, hx3⟩ : ∃ x, x = F (j * 4 + 3) := ⟨_, rfl⟩
        rw [← hx0] at c0
        rw [← hx1] at c1
        have HX2 := Lib.hid hx2
        have HX3 := Lib.hid hx3
        clear hrw hgr hr hrow hx0 hx1 hx2 hx3
        go_wp2_with fail
        refine (markText' _ (p + 2) (by omega) _ (by omega) (by omega)).mono ?_
        rintro e w1 ⟨rfl, hb⟩
        have hl1 : g < ((wr.setCell ⟨g, j * 4, none⟩ (.int .i64 (p : Int))).setCell ⟨g, j * 4 + 1, none⟩ (.int .i64 ((p : Int) + 1))).heap.size := by simpa [World.setCell] using hlg
        have R1 := rowIs_below ((HR.out.set (j * 4) (.int .i64 (p : Int))).set (j * 4 + 1) (.int .i64 ((p : Int) + 1))) hb hl1
        have G1 := Lib.hid (grown_below (grown_set (grown_set HG.out (j * 4) (.int .i64 (p : Int))) (j * 4 + 1) (.int .i64 ((p : Int) + 1))) hb)
        have HR1 := Lib.hid R1
        have c2 := R1.cell (show j * 4 + 2 < m by omega)
        rw [if_neg (by omega), if_neg (by omega), if_neg (by omega), ← HX2.out] at c2
        have f2 := R1.frozen (j * 4 + 2)
        have hlg1 := R1.lt
        clear hb R1 c0 c1 f0 f1 HR HG hl1
        go_wp2_with fail
        refine (markText' _ (p + 3) (by omega) _ (by omega) (by omega)).mono ?_
        rintro e w2 ⟨rfl, hb⟩
        have hl2 : g < (w1.setCell ⟨g, j * 4 + 2, none⟩ (.string (markS (p + 2)))).heap.size := by simpa [World.setCell] using hlg1
        have R2 := rowIs_below (HR1.out.set (j * 4 + 2) (.string (markS (p + 2)))) hb hl2
        have G2 := Lib.hid (grown_below (grown_set G1.out (j * 4 + 2) (.string (markS (p + 2)))) hb)
        have HR2 := Lib.hid R2
        have c3 := R2.cell (show j * 4 + 3 < m by omega)
        rw [if_neg (by omega), if_neg (by omega), if_neg (by omega), if_neg (by omega), ← HX3.out] at c3
        have f3 := R2.frozen (j * 4 + 3)
        clear hb R2 c2 f2 HR1 G1 hl2
        go_wp2
        go_roundw
        case rel =>
          refine ⟨j + 1, p + 4, hlt, by go_num, by go_num, by have := HP.out; omega, (HR2.out.set (j * 4 + 3) _).congr fun i hi => stepM k p j HP.out F i, grown_set G2.out _ _⟩
        case measure => simp [intOf]; omega
      · obtain rfl : j = n := by omega
        have HK := Lib.hid (show (p : Int) = ((k + j * 4 : Nat) : Int) by rw [HP.out])
        clear hrw hgr hr hrow
        go_wp2
        go_ret
        exact ⟨by rw [← HK.out]; rfl, ⟨_, _, rfl, _, _, rfl, fun _ => ⟨g, m, _, rfl, hlo, hnm, HR.out, fun i hi => if_pos hi⟩⟩, .inl ⟨by omega, HG.out⟩⟩

set_option maxHeartbeats 2000000 in
theorem heldEdges (v : Value) (n : Nat) (k : Nat) (lo : Nat) (w : World) (hr : RowE w lo v n (markF k)) (hn : n ≤ 1048576) (h1 : 1 ≤ k) (hk : k + n * 4 ≤ 8388600) :
    Calls Try.prog 52 #[v, .int .i64 k] w fun e w' => e = .returned (.int .i64 ((k + n * 4 : Nat) : Int)) ∧ Below w.heap.size w w' := by
  obtain ⟨a, cap, rfl, b', c', hv, hr⟩ := hr
  cases hv
  have HRR := Lib.hid hr
  clear hr
  go_enter Try.func52, Try.ntmps52
  go_wp2
  go_loopw [1, 5] (fun kk i wr => ∃ j p : Nat, j ≤ n ∧ i = .int .i64 j ∧ kk = .int .i64 (p : Int) ∧ p = k + j * 4 ∧ Below w.heap.size w wr) (fun _ i _ => n - (intOf i).toNat)
  case atStart => exact ⟨0, k, Nat.zero_le _, rfl, rfl, by omega, Below.refl _ _⟩
  case round =>
    obtain ⟨j, p, hj, rfl, rfl, hp, hbel⟩ := hrel
    have HB := Lib.hid hbel
    have HP := Lib.hid hp
    have hp1 : 1 ≤ p := by omega
    have hp2 : p ≤ 8388600 := by omega
    clear hp
    by_cases hlt : j < n
    · obtain ⟨g, m, F, rfl, hlo, hnm, hrow, hF⟩ := HRR.out (by omega)
      have hlg := hrow.lt
      have hrow' := rowIs_below hrow hbel hlg
      have hlb : g < wr.heap.size := hrow'.lt
      have c0 := hrow'.cell (show j * 4 < m by omega)
      have c1 := hrow'.cell (show j * 4 + 1 < m by omega)
      have c2 := hrow'.cell (show j * 4 + 2 < m by omega)
      have c3 := hrow'.cell (show j * 4 + 3 < m by omega)
      rw [hF _ (by omega)] at c0 c1 c2 c3
      have e0 : markF k (j * 4) = .int .i64 (p : Int) := by unfold markF; rw [if_pos (by omega), HP.out]
      have e1 : markF k (j * 4 + 1) = .int .i64 ((p : Int) + 1) := by unfold markF; rw [if_pos (by omega), HP.out]; congr 1
      have e2 : markF k (j * 4 + 2) = .string (markS (p + 2)) := by unfold markF; rw [if_neg (by omega), HP.out]; congr 2
      have e3 : markF k (j * 4 + 3) = .string (markS (p + 3)) := by unfold markF; rw [if_neg (by omega), HP.out]; congr 2
      rw [e0] at c0
      rw [e1] at c1
      rw [e2] at c2
      rw [e3] at c3
      obtain ⟨s, hs⟩ : ∃ s, s = markS (p + 2) := ⟨_, rfl⟩
      obtain ⟨r, hr⟩ : ∃ r, r = markS (p + 3) := ⟨_, rfl⟩
      have HM2 := Lib.hid (fun W => markText' ((p : Int) + 1 + 1) (p + 2) (by omega) W (by omega) (by omega))
      have HM3 := Lib.hid (fun W => markText' ((p : Int) + 1 + 1 + 1) (p + 3) (by omega) W (by omega) (by omega))
      rw [← hs] at c2 HM2
      rw [← hr] at c3 HM3
      have hself : (s.toList == s.toList) = true := by simp
      have hself2 : (r.toList == r.toList) = true := by simp
      have hne0 : ((p : Int) != (p : Int)) = false := by simp
      have hne1 : (((p : Int) + 1) != ((p : Int) + 1)) = false := by simp
      clear hrow hrow' hF e0 e1 e2 e3 hs hr hbel
      go_upto_region 10 with fail
      go_cut [1, 37] (fun v1 v37 wx => v1 = .int .i64 ((p : Int) + 1 + 1) ∧ v37 = .bool false ∧ Below w.heap.size w wx ∧ wx.cell? ⟨g, j * 4 + 3, none⟩ = some (.string r) ∧ g < wx.heap.size)
      case first =>
        go_region_with (go_at_call 79; refine (HM2.out _).mono ?_; rintro e w1 ⟨rfl, hb⟩; have HB1 := Lib.hid (base_step HB.out.drew hb); have c2' := (hb.cell (p := ⟨g, j * 4 + 2, none⟩) hlb).trans c2; have HC3 := Lib.hid ((hb.cell (p := ⟨g, j * 4 + 3, none⟩) hlb).trans c3); have HL1 := Lib.hid (Nat.lt_of_lt_of_le hlb hb.size); clear hb)
        all_goals
          go_wp2_with fail
          go_meet
          exact ⟨rfl, rfl, HB1.out, HC3.out, HL1.out⟩
      case rest =>
        obtain ⟨rfl, rfl, hbb, c3', hlb'⟩ := hcut
        have HBB := Lib.hid hbb
        clear hbb c0 c1 c2 c3 hlb HB
        go_wp2_with fail
        go_region_with (go_at_call 79; refine (HM3.out _).mono ?_; rintro e w2 ⟨rfl, hb⟩; have HB2 := Lib.hid (base_step HBB.out.drew hb); have c3'' := (hb.cell (p := ⟨g, j * 4 + 3, none⟩) hlb').trans c3'; clear hb)
        all_goals
          go_wp2
          go_roundw
          case rel => exact ⟨j + 1, p + 4, hlt, by go_num, by go_num, by have := HP.out; omega, HB2.out⟩
          case measure => simp [intOf]; omega
    · obtain rfl : j = n := by omega
      have HK := Lib.hid (show (p : Int) = ((k + j * 4 : Nat) : Int) by rw [HP.out])
      clear hbel
      go_wp2
      go_ret
      exact ⟨by rw [← HK.out]; rfl, HB.out⟩
end Go.Proofs.Ytjoiaenkmmmmpaa.TrMark
