
/- What the model's function that looks at the number of states hands back.
   Conditions: the relation's fields are slices. -/
import Derived.Test.YtaebeglcoghehaaCN6
import Derived.Test.YtaebeglcoghehaaCN2
import Derived.Test.YtaebeglcoghehaaCN13
import Derived.Test.YtaebeglcoghehaaCN20
import Derived.Test.YtaebeglcoghehaaCN18
import Derived.Test.YtaebeglcoghehaaCN15
namespace Go.Proofs.Ytaebeglcoghehaa.SpecTold
set_option linter.unusedVariables false
set_option linter.unusedSimpArgs false
open Go.RowKit Mem Rel Bld

set_option maxHeartbeats 2000000 in
theorem told_few (k : Int) (aa ab : Option Addr) (n ca nb cb : Nat) (w : World) (hn : n ≤ 150) :
    Calls Try.prog 62 #[.agg #[.int .i64 k, .int .i64 0, .slice aa n ca, .slice ab nb cb]] w fun e w' => e = .returned (.tuple #[.agg #[.int .i64 k, .int .i64 0, .slice aa n ca, .slice ab nb cb], .int .i64 0]) ∧ Below w.heap.size w w' := by
  go_enter Try.func62, Try.ntmps62
  go_wp2
  exact bodyPost_ret (v := .tuple #[.agg #[.int .i64 k, .int .i64 0, .slice aa n ca, .slice ab nb cb], .int .i64 0]) (by simp [results, Try.results62, go_sem]) rfl ⟨rfl, ((Below.refl _ _).alloc (Nat.le_refl _) _).alloc (by simp) _⟩
theorem told_many (k : Int) (aa ab : Option Addr) (n ca nb cb : Nat) (w : World) (hn : 150 < n) (hm : n ≤ 1000000) :
    Calls Try.prog 62 #[.agg #[.int .i64 k, .int .i64 0, .slice aa n ca, .slice ab nb cb]] w fun e w' => e = .returned (.tuple #[.agg #[.int .i64 0, .int .i64 0, .slice none 0 0, .slice none 0 0], .int .i64 3]) ∧ Below w.heap.size w w' := by
  go_enter Try.func62, Try.ntmps62
  go_wp2
  exact bodyPost_ret (v := .tuple #[.agg #[.int .i64 0, .int .i64 0, .slice none 0 0, .slice none 0 0], .int .i64 3]) (by simp [results, Try.results62, go_sem]) rfl ⟨rfl, ((Below.refl _ _).alloc (Nat.le_refl _) _).alloc (by simp) _⟩
end Go.Proofs.Ytaebeglcoghehaa.SpecTold
/- What a tidied relation is, by what is read: its tapes, a code, its lists.
   Conditions: stated at each theorem. -/
namespace Go.Proofs.Ytaebeglcoghehaa.SpecTidyRel
set_option linter.unusedVariables false
set_option linter.unusedSimpArgs false
open Go.RowKit Mem Copy Rel Valid Heap Columns TidyAuto TidyRight SpecRight ToL Bld

def few (r : R) : Bool := okB r && decide ((tidyAcc (toL r)).length ≤ 150)
def tidyC (r : R) : Int := if okB r = true then (if (tidyAcc (toL r)).length ≤ 150 then 0 else 3) else 1
def tidyK (r : R) : Int := if few r = true then r.tapes else 0
def tidyA (r : R) : List Bool := if few r = true then tidyAcc (toL r) else []
def tidyN (r : R) : List (List Int) := if few r = true then tidyNext (toL r) else []

theorem built_none (w : World) (B : Nat) : Built w B (.slice none 0 0) (.slice none 0 0) [] [] :=
  ⟨Lst.nil _ _ _, [], Own.nil _ _ _, Lst.nil _ _ _, rfl⟩

theorem okL {r : R} (h : okB r = true) : (relOf (toL r) = r ∧ (toL r).Ok) ∧ (toL r).acc.length ≤ 150 := by
  unfold okB at h
  rw [Bool.and_eq_true] at h
  exact ⟨relOf_toL h.2, by have := of_decide_eq_true h.1; show r.accept.length ≤ 150; omega⟩
end Go.Proofs.Ytaebeglcoghehaa.SpecTidyRel
/- What the model's TidyRelation answers: a relation in memory of its own, and a code.
   Conditions: the relation is read as XRel's text says. -/
namespace Go.Proofs.Ytaebeglcoghehaa.SpecTidyRel
set_option linter.unusedVariables false
set_option linter.unusedSimpArgs false
open Go.RowKit Mem Copy Rel Valid Heap Columns TidyAuto TidyRight SpecRight SpecTidied SpecTold ToL Bld

end Go.Proofs.Ytaebeglcoghehaa.SpecTidyRel
/- What the program's TidyRelation answers: a relation in memory of its own, and a code.
   Conditions: the relation is read as XRel's text says. -/
namespace Go.Proofs.Ytaebeglcoghehaa.ImplTidyRel
set_option linter.unusedVariables false
set_option linter.unusedSimpArgs false
open Go.RowKit Mem Copy Rel Valid Heap Columns TidyAuto TidyRight SpecRight ToL Bld SpecTidyRel ImplRight ImplTidied

theorem few_of {r : R} (h : okB r = true) : few r = fewB (toL r) 150 := by unfold few fewB; rw [h]; rfl
theorem tidyK_of {r : R} (h : okB r = true) : tidyK r = fewK (toL r) 150 := by
  unfold tidyK fewK
  rw [few_of h]
  have : ((toL r).k : Int) = r.tapes := by rw [← congrArg R.tapes (okL h).1.1]; rfl
  rw [this]
theorem tidyA_of {r : R} (h : okB r = true) : tidyA r = fewA (toL r) 150 := by unfold tidyA fewA; rw [few_of h]
theorem tidyN_of {r : R} (h : okB r = true) : tidyN r = fewN (toL r) 150 := by unfold tidyN fewN; rw [few_of h]
theorem tidyC_of {r : R} (h : okB r = true) : tidyC r = if fewB (toL r) 150 = true then 0 else 3 := by
  unfold tidyC fewB
  rw [if_pos h]
  by_cases hl : (tidyAcc (toL r)).length ≤ 150
  · rw [if_pos hl, if_pos (decide_eq_true hl)]
  · rw [if_neg hl, if_neg (by simpa using hl)]

set_option maxRecDepth 100000 in
set_option maxHeartbeats 8000000 in
theorem tidied (v : Value) (r : R) (hok : okB r = true) (w : World) (B : Nat) (h : RelAt w B v r) (hB : B ≤ w.heap.size) :
    Calls Try.prog 67 #[v] w fun e w' => ∃ va vn, e = .returned (.tuple #[.agg #[.int .i64 (tidyK r), .int .i64 0, va, vn], .int .i64 (tidyC r)]) ∧ Built w' w.heap.size va vn (tidyA r) (tidyN r) ∧ Below w.heap.size w w' := by
  rw [tidyK_of hok, tidyA_of hok, tidyN_of hok, tidyC_of hok]
  have HTT := Lib.hid (fun W (hb : Below w.heap.size w W) (hs : w.heap.size ≤ W.heap.size) => ImplTidied.tidiedTo (toL r) (okL hok).1.2 v W B (by
    rw [(okL hok).1.1]
    obtain ⟨va, vn, rfl, ha, hx⟩ := h
    exact ⟨va, vn, rfl, ha.below hb hB, hx.below hb hB⟩) (Nat.le_trans hB hs) (by have := (okL hok).2; omega) 150 (by omega))
  obtain ⟨K, hK⟩ : ∃ K, K = fewK (toL r) 150 := ⟨_, rfl⟩
  obtain ⟨A, hA⟩ : ∃ A, A = fewA (toL r) 150 := ⟨_, rfl⟩
  obtain ⟨N, hN⟩ : ∃ N, N = fewN (toL r) 150 := ⟨_, rfl⟩
  obtain ⟨Q, hQ⟩ : ∃ Q, Q = fewB (toL r) 150 := ⟨_, rfl⟩
  have HE0 := Lib.hid (show Q = false → K = 0 ∧ A = [] ∧ N = [] from fun h => by rw [hK, hA, hN]; unfold fewK fewA fewN; rw [← hQ, h]; exact ⟨rfl, rfl, rfl⟩)
  rw [← hK, ← hA, ← hN, ← hQ] at HTT
  rw [← hK, ← hA, ← hN, ← hQ]
  obtain ⟨va, vn, rfl, ha, hn⟩ := h
  obtain ⟨aa, ba, oa, ca, rfl, -, -, -⟩ := ha
  obtain ⟨-, ⟨ab, bb, ob, cb, rfl, -, -, -⟩, -⟩ := hn
  obtain ⟨k, hk⟩ : ∃ k, k = r.tapes := ⟨_, rfl⟩
  obtain ⟨st, hs⟩ : ∃ st, st = r.start := ⟨_, rfl⟩
  obtain ⟨na, hna⟩ : ∃ na, na = r.accept.length := ⟨_, rfl⟩
  obtain ⟨nb, hnb⟩ : ∃ nb, nb = r.next.length := ⟨_, rfl⟩
  rw [← hk, ← hs, ← hna, ← hnb] at HTT
  rw [← hk, ← hs, ← hna, ← hnb]
  have HT := Lib.hid (HTT.out ((w.alloc (.cells #[.int .i64 k, .int .i64 st, .slice aa na ca, .slice ab nb cb] 29)).alloc (.cells #[Value.int .i64 0, .int .i64 0, .slice none 0 0, .slice none 0 0] 29)) (((Below.refl _ _).alloc (Nat.le_refl _) _).alloc (by rw [size_alloc']; omega) _) (by rw [size_alloc', size_alloc']; omega))
  clear hk hs hna hnb hK hA hN hQ HTT hok hB
  go_enter Try.func67, Try.ntmps67
  go_wp2_with fail
  refine HT.out.mono ?_
  rintro e w3 ⟨va, vn, rfl, hbu, hb3⟩
  have hk3 : K0 w #[.int .i64 k, .int .i64 st, .slice aa na ca, .slice ab nb cb] w3 := by
    have h1 := hb3
    rw [size_alloc', size_alloc'] at h1
    exact h1
  have hbu2 : Built w3 (w.heap.size + 2) va vn A N := by
    have h1 := hbu
    rw [size_alloc', size_alloc'] at h1
    exact h1
  have HBU := Lib.hid hbu2
  obtain ⟨a3, n3, c3, rfl, -⟩ := hbu.acc.shape'
  obtain ⟨items0, -, hnx0, -⟩ := hbu.rows
  obtain ⟨b3, m3, d3, rfl, -⟩ := hnx0.shape'
  have HK3 := Lib.hid hk3
  have hres := K0.res hk3
  have HRES := Lib.hid hres
  clear hb3 hbu hbu2 hnx0 hk3 HT
  cases Q with
  | true =>
    have r0 := cells_get hres 0
    have r1 := cells_get hres 1
    have r2 := cells_get hres 2
    have r3 := cells_get hres 3
    have f0 := cells_free hres 0
    have f1 := cells_free hres 1
    have f2 := cells_free hres 2
    have f3 := cells_free hres 3
    have hlS := lt_of_block hres
    have p0 := cells_set hres 0 (.int .i64 K)
    have p1 := cells_set p0 1 (.int .i64 0)
    have p2 := cells_set p1 2 (Value.slice a3 n3 c3)
    have p3 := cells_set p2 3 (Value.slice b3 m3 d3)
    simp at r0 r1 r2 r3 p3
    have p4 := (Below.heap_alloc _ (.cells #[.int .i64 K, .int .i64 0, .slice a3 n3 c3, .slice b3 m3 d3] 29) _ (lt_of_block p3)).trans p3
    have g0 := cells_get p4 0
    have g1 := cells_get p4 1
    have g2 := cells_get p4 2
    have g3 := cells_get p4 3
    simp at g0 g1 g2 g3
    have HG := Lib.hid (And.intro g0 (And.intro g1 (And.intro g2 g3)))
    clear p0 p1 p2 p3 p4 g0 g1 g2 g3 hres
    go_wp2_with fail
    obtain ⟨g0, g1, g2, g3⟩ := HG.out
    refine bodyPost_ret (v := .tuple #[.agg #[.int .i64 K, .int .i64 0, .slice a3 n3 c3, .slice b3 m3 d3], .int .i64 0]) (by simp [results, Try.results67, go_sem, g0, g1, g2, g3]) rfl ⟨.slice a3 n3 c3, .slice b3 m3 d3, rfl, ?_, ?_⟩
    · exact ((((((HBU.out.setLow (a := ⟨w.heap.size + 1, 0, none⟩) (Nat.lt_succ_self _) _).setLow (a := ⟨w.heap.size + 1, 1, none⟩) (Nat.lt_succ_self _) _).setLow (a := ⟨w.heap.size + 1, 2, none⟩) (Nat.lt_succ_self _) _).setLow (a := ⟨w.heap.size + 1, 3, none⟩) (Nat.lt_succ_self _) _).below ((Below.refl _ _).alloc (Nat.le_refl _) _)).mono (by omega))
    · have HBW := K0.base HK3.out
      exact ((((HBW.setCell (p := ⟨w.heap.size + 1, 0, none⟩) (Nat.le_succ _) _).setCell (p := ⟨w.heap.size + 1, 1, none⟩) (Nat.le_succ _) _).setCell (p := ⟨w.heap.size + 1, 2, none⟩) (Nat.le_succ _) _).setCell (p := ⟨w.heap.size + 1, 3, none⟩) (Nat.le_succ _) _).alloc (by simp [World.setCell]; have := HBW.size; omega) _
  | false =>
    obtain ⟨rfl, rfl, rfl⟩ := HE0.out rfl
    have r0 := cells_get hres 0
    have r1 := cells_get hres 1
    have r2 := cells_get hres 2
    have r3 := cells_get hres 3
    have f0 := cells_free hres 0
    have f1 := cells_free hres 1
    have f2 := cells_free hres 2
    have f3 := cells_free hres 3
    have hlS := lt_of_block hres
    have p0 := cells_set hres 0 (.int .i64 0)
    have p1 := cells_set p0 1 (.int .i64 0)
    have p2 := cells_set p1 2 (Value.slice none 0 0)
    have p3 := cells_set p2 3 (Value.slice none 0 0)
    simp at r0 r1 r2 r3 p3
    have p4 := (Below.heap_alloc _ (.cells #[.int .i64 0, .int .i64 0, .slice a3 n3 c3, .slice b3 m3 d3] 29) _ (lt_of_block p3)).trans p3
    have g0 := cells_get p4 0
    have g1 := cells_get p4 1
    have g2 := cells_get p4 2
    have g3 := cells_get p4 3
    simp at g0 g1 g2 g3
    have HG := Lib.hid (And.intro g0 (And.intro g1 (And.intro g2 g3)))
    clear p0 p1 p2 p3 p4 g0 g1 g2 g3 hres
    go_wp2_with fail
    obtain ⟨g0, g1, g2, g3⟩ := HG.out
    refine bodyPost_ret (v := .tuple #[.agg #[.int .i64 0, .int .i64 0, .slice none 0 0, .slice none 0 0], .int .i64 3]) (by simp [results, Try.results67, go_sem, g0, g1, g2, g3]) rfl ⟨.slice none 0 0, .slice none 0 0, rfl, ImplTidied.built_none _ _, ?_⟩
    have HBW := K0.base HK3.out
    exact ((((HBW.setCell (p := ⟨w.heap.size + 1, 0, none⟩) (Nat.le_succ _) _).setCell (p := ⟨w.heap.size + 1, 1, none⟩) (Nat.le_succ _) _).setCell (p := ⟨w.heap.size + 1, 2, none⟩) (Nat.le_succ _) _).setCell (p := ⟨w.heap.size + 1, 3, none⟩) (Nat.le_succ _) _).alloc (by simp [World.setCell]; have := HBW.size; omega) _

end Go.Proofs.Ytaebeglcoghehaa.ImplTidyRel
/- Rows of truth values that a law marks and looks at.
   Conditions: stated at each theorem. -/
namespace Go.Proofs.Ytaebeglcoghehaa.MarkBool
set_option linter.unusedVariables false
set_option linter.unusedSimpArgs false
open Go.RowKit Mem Copy Rel MarkRow

/-- The mark with the number k. -/
def markB (k : Nat) : Bool := ((k : Int) % 3 == 0)

set_option maxHeartbeats 1000000 in
theorem markBools (v : Value) (n : Nat) (f : Nat → Value) (k : Nat) (lo : Nat) (w : World) (hr : Row w lo 4 v n f) (hn : n ≤ 1048576) (hk : k ≤ 100000000) :
    Calls Try.prog 71 #[v, .int .i64 k] w fun e w' => e = .returned (.int .i64 ((k + n : Nat) : Int)) ∧ Row w' lo 4 v n (fun i => .bool (markB (k + i))) ∧ ((0 < n ∧ w.grownBy w' v.ownBlock) ∨ w = w') := by
  obtain ⟨a, cap, rfl, hr⟩ := hr
  by_cases h0 : n = 0
  · subst h0
    clear hr
    go_enter Try.func71, Try.ntmps71
    go_wp2
    refine wp_loop_rounds 1 ?_
    rw [rounds_succ]
    go_wp2
    go_ret
    exact ⟨rfl, ⟨_, _, rfl, fun h => absurd h (Nat.lt_irrefl 0)⟩, .inr rfl⟩
  · obtain ⟨g, m, F, rfl, hlo, hnm, hrow, -⟩ := hr (by omega)
    have hg0 : g < w.heap.size := hrow.lt
    go_enter Try.func71, Try.ntmps71
    go_wp2
    go_loopw [1, 5] (fun kk i wr => ∃ j : Nat, j ≤ n ∧ i = .int .i64 j ∧ kk = .int .i64 ((k + j : Nat) : Int) ∧ wr.rowIs g 4 m (fun i => if i < j then .bool (markB (k + i)) else F i) ∧ w.grownBy wr (some g)) (fun _ i _ => n - (intOf i).toNat)
    case atStart => exact ⟨0, Nat.zero_le _, rfl, rfl, hrow.congr fun i hi => by rw [if_neg (Nat.not_lt_zero i)], grown_refl _ _⟩
    case round =>
      obtain ⟨j, hj, rfl, rfl, hrw, hgr⟩ := hrel
      have HR := Lib.hid hrw
      have HG := Lib.hid hgr
      by_cases hlt : j < n
      · have cN := hrw.cell (show j < m by omega)
        have fN := hrw.frozen j
        rw [if_neg (Nat.lt_irrefl j)] at cN
        obtain ⟨x, hx⟩ : ∃ x, x = F j := ⟨_, rfl⟩
        rw [← hx] at cN
        clear hrw hgr hr hrow hx
        go_wp2
        go_roundw
        case rel =>
          refine ⟨j + 1, hlt, by go_num, by go_num, (HR.out.set j _).congr fun i hi => ?_, grown_set HG.out _ _⟩
          by_cases e : i = j
          · subst e; simp [markB]
          · have h1 : (i < j + 1) = (i < j) := by apply propext; constructor <;> intro h <;> omega
            simp only [if_neg e, h1]
        case measure => simp [intOf]; omega
      · obtain rfl : j = n := by omega
        clear hrw hgr hr hrow
        go_wp2
        go_ret
        exact ⟨rfl, ⟨_, _, rfl, fun _ => ⟨g, m, _, rfl, hlo, hnm, HR.out, fun i hi => if_pos hi⟩⟩, .inl ⟨by omega, HG.out⟩⟩

set_option maxHeartbeats 1000000 in
theorem heldBools (v : Value) (n : Nat) (k : Nat) (B : Nat) (w : World) (hr : Sl w B v n (fun i => .bool (markB (k + i)))) (hn : n ≤ 1048576) (hk : k ≤ 100000000) :
    Calls Try.prog 73 #[v, .int .i64 k] w fun e w' => e = .returned (.int .i64 ((k + n : Nat) : Int)) ∧ w = w' := by
  obtain ⟨a, b, off, cap, rfl, -, ha, hc⟩ := hr
  go_enter Try.func73, Try.ntmps73
  go_wp2
  go_loop [1, 5] (fun kk i => ∃ j : Nat, j ≤ n ∧ i = .int .i64 j ∧ kk = .int .i64 ((k + j : Nat) : Int)) (fun _ i => n - (intOf i).toNat)
  case atStart => exact ⟨0, Nat.zero_le _, rfl, rfl⟩
  case round =>
    obtain ⟨j, hj, rfl, rfl⟩ := hrel
    by_cases hlt : j < n
    · obtain rfl := (ha (by omega)).1
      have cA : w.cell? ⟨b, off + j, none⟩ = some (.bool (markB (k + j))) := hc j hlt
      unfold markB at cA
      cases hm : (((k + j : Nat) : Int) % 3 == 0) with
      | true =>
        rw [hm] at cA
        have hm2 : (((k : Int) + (j : Int)) % 3 == 0) = true := by rw [← Int.natCast_add]; exact hm
        have hm3 : (((k : Int) + (j : Int)) % 3 = 0) = True := by simpa using hm2
        clear hc ha hm
        go_wp2
        go_round
        case rel => exact ⟨j + 1, hlt, by go_num, by go_num⟩
        case measure => simp [intOf]; omega
      | false =>
        rw [hm] at cA
        have hm2 : (((k : Int) + (j : Int)) % 3 == 0) = false := by rw [← Int.natCast_add]; exact hm
        have hm3 : (((k : Int) + (j : Int)) % 3 = 0) = False := by simpa using hm2
        clear hc ha hm
        go_wp2
        go_round
        case rel => exact ⟨j + 1, hlt, by go_num, by go_num⟩
        case measure => simp [intOf]; omega
    · obtain rfl : j = n := by omega
      clear hc ha
      go_wp2
      go_ret
      exact ⟨rfl, rfl⟩
end Go.Proofs.Ytaebeglcoghehaa.MarkBool
