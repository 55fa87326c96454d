
/- The letters of a column with the tapes in another order: what the closure of the program's moved hands back.
   Conditions: stated at each theorem. -/
import Derived.Test.YtgaipjofhkijbaaDoorIM10
import Derived.Deep.RegionWith
import Derived.Test.YtgaipjofhkijbaaDoorIM22
import Derived.Laws.IdiomCopy
import Derived.Deep.RegionLaw
namespace Go.Proofs.YtgaipjofhkijbaaDoor.MoveI
set_option linter.unusedVariables false
set_option linter.unusedSimpArgs false
set_option maxRecDepth 100000
open Go.RowKit Mem Copy Rel Heap Bld Columns Numbers TidyRight TapeMath

set_option maxHeartbeats 8000000 in
theorem m0 (x y z : Int) (b1 bo oo co : Nat) (W : World) (hb : W.cell? ⟨b1, 0, none⟩ = some (.slice (some ⟨bo, oo, none⟩) 1 co)) (h0 : W.cell? ⟨bo, oo + 0, none⟩ = some (.int .i64 0)) (l1 : b1 < W.heap.size) (l2 : bo < W.heap.size) :
    Calls Tryd.prog 62 #[.agg #[.int .u8 x, .int .u8 y, .int .u8 z], .pointer (some ⟨b1, 0, none⟩)] W fun e w' => e = .returned (.agg #[.int .u8 x, .int .u8 35, .int .u8 35]) ∧ Below W.heap.size W w' := by
  simp only [Nat.add_zero] at h0
  have q1 : b1 < W.heap.size + 1 := by omega
  have q2 : b1 < W.heap.size + 1 + 1 := by omega
  have q3 : b1 < W.heap.size + 1 + 1 + 1 := by omega
  have q4 : bo < W.heap.size + 1 := by omega
  have q5 : bo < W.heap.size + 1 + 1 := by omega
  have q6 : bo < W.heap.size + 1 + 1 + 1 := by omega
  go_enter Tryd.func62, Tryd.ntmps62
  go_wp2_with (go_at_call 63; refine (pads _).mono ?_; rintro e w' ⟨rfl, rfl⟩)
  refine wp_loop_rounds 2 ?_
  rw [rounds_succ]
  go_wp2
  rw [rounds_succ]
  go_wp2
  exact bodyPost_ret (v := .agg #[.int .u8 x, .int .u8 35, .int .u8 35]) (by simp [results, Tryd.results62, go_sem]) rfl ⟨rfl, base_box (base_box (base_box (base_box (Below.refl _ _) _) _) _) _⟩

set_option maxHeartbeats 8000000 in
theorem m01 (x y z : Int) (b1 bo oo co : Nat) (W : World) (hb : W.cell? ⟨b1, 0, none⟩ = some (.slice (some ⟨bo, oo, none⟩) 2 co)) (h0 : W.cell? ⟨bo, oo + 0, none⟩ = some (.int .i64 0)) (h1 : W.cell? ⟨bo, oo + 1, none⟩ = some (.int .i64 1)) (l1 : b1 < W.heap.size) (l2 : bo < W.heap.size) :
    Calls Tryd.prog 62 #[.agg #[.int .u8 x, .int .u8 y, .int .u8 z], .pointer (some ⟨b1, 0, none⟩)] W fun e w' => e = .returned (.agg #[.int .u8 x, .int .u8 y, .int .u8 35]) ∧ Below W.heap.size W w' := by
  simp only [Nat.add_zero] at h0
  have q1 : b1 < W.heap.size + 1 := by omega
  have q2 : b1 < W.heap.size + 1 + 1 := by omega
  have q3 : b1 < W.heap.size + 1 + 1 + 1 := by omega
  have q4 : bo < W.heap.size + 1 := by omega
  have q5 : bo < W.heap.size + 1 + 1 := by omega
  have q6 : bo < W.heap.size + 1 + 1 + 1 := by omega
  go_enter Tryd.func62, Tryd.ntmps62
  go_wp2_with (go_at_call 63; refine (pads _).mono ?_; rintro e w' ⟨rfl, rfl⟩)
  refine wp_loop_rounds 3 ?_
  rw [rounds_succ]
  go_wp2
  rw [rounds_succ]
  go_wp2
  rw [rounds_succ]
  go_wp2
  exact bodyPost_ret (v := .agg #[.int .u8 x, .int .u8 y, .int .u8 35]) (by simp [results, Tryd.results62, go_sem]) rfl ⟨rfl, base_box (base_box (base_box (base_box (Below.refl _ _) _) _) _) _⟩

set_option maxHeartbeats 8000000 in
theorem m10 (x y z : Int) (b1 bo oo co : Nat) (W : World) (hb : W.cell? ⟨b1, 0, none⟩ = some (.slice (some ⟨bo, oo, none⟩) 2 co)) (h0 : W.cell? ⟨bo, oo + 0, none⟩ = some (.int .i64 1)) (h1 : W.cell? ⟨bo, oo + 1, none⟩ = some (.int .i64 0)) (l1 : b1 < W.heap.size) (l2 : bo < W.heap.size) :
    Calls Tryd.prog 62 #[.agg #[.int .u8 x, .int .u8 y, .int .u8 z], .pointer (some ⟨b1, 0, none⟩)] W fun e w' => e = .returned (.agg #[.int .u8 y, .int .u8 x, .int .u8 35]) ∧ Below W.heap.size W w' := by
  simp only [Nat.add_zero] at h0
  have q1 : b1 < W.heap.size + 1 := by omega
  have q2 : b1 < W.heap.size + 1 + 1 := by omega
  have q3 : b1 < W.heap.size + 1 + 1 + 1 := by omega
  have q4 : bo < W.heap.size + 1 := by omega
  have q5 : bo < W.heap.size + 1 + 1 := by omega
  have q6 : bo < W.heap.size + 1 + 1 + 1 := by omega
  go_enter Tryd.func62, Tryd.ntmps62
  go_wp2_with (go_at_call 63; refine (pads _).mono ?_; rintro e w' ⟨rfl, rfl⟩)
  refine wp_loop_rounds 3 ?_
  rw [rounds_succ]
  go_wp2
  rw [rounds_succ]
  go_wp2
  rw [rounds_succ]
  go_wp2
  exact bodyPost_ret (v := .agg #[.int .u8 y, .int .u8 x, .int .u8 35]) (by simp [results, Tryd.results62, go_sem]) rfl ⟨rfl, base_box (base_box (base_box (base_box (Below.refl _ _) _) _) _) _⟩

set_option maxHeartbeats 8000000 in
theorem m012 (x y z : Int) (b1 bo oo co : Nat) (W : World) (hb : W.cell? ⟨b1, 0, none⟩ = some (.slice (some ⟨bo, oo, none⟩) 3 co)) (h0 : W.cell? ⟨bo, oo + 0, none⟩ = some (.int .i64 0)) (h1 : W.cell? ⟨bo, oo + 1, none⟩ = some (.int .i64 1)) (h2 : W.cell? ⟨bo, oo + 2, none⟩ = some (.int .i64 2)) (l1 : b1 < W.heap.size) (l2 : bo < W.heap.size) :
    Calls Tryd.prog 62 #[.agg #[.int .u8 x, .int .u8 y, .int .u8 z], .pointer (some ⟨b1, 0, none⟩)] W fun e w' => e = .returned (.agg #[.int .u8 x, .int .u8 y, .int .u8 z]) ∧ Below W.heap.size W w' := by
  simp only [Nat.add_zero] at h0
  have q1 : b1 < W.heap.size + 1 := by omega
  have q2 : b1 < W.heap.size + 1 + 1 := by omega
  have q3 : b1 < W.heap.size + 1 + 1 + 1 := by omega
  have q4 : bo < W.heap.size + 1 := by omega
  have q5 : bo < W.heap.size + 1 + 1 := by omega
  have q6 : bo < W.heap.size + 1 + 1 + 1 := by omega
  go_enter Tryd.func62, Tryd.ntmps62
  go_wp2_with (go_at_call 63; refine (pads _).mono ?_; rintro e w' ⟨rfl, rfl⟩)
  refine wp_loop_rounds 4 ?_
  rw [rounds_succ]
  go_wp2
  rw [rounds_succ]
  go_wp2
  rw [rounds_succ]
  go_wp2
  rw [rounds_succ]
  go_wp2
  exact bodyPost_ret (v := .agg #[.int .u8 x, .int .u8 y, .int .u8 z]) (by simp [results, Tryd.results62, go_sem]) rfl ⟨rfl, base_box (base_box (base_box (base_box (Below.refl _ _) _) _) _) _⟩

set_option maxHeartbeats 8000000 in
theorem m021 (x y z : Int) (b1 bo oo co : Nat) (W : World) (hb : W.cell? ⟨b1, 0, none⟩ = some (.slice (some ⟨bo, oo, none⟩) 3 co)) (h0 : W.cell? ⟨bo, oo + 0, none⟩ = some (.int .i64 0)) (h1 : W.cell? ⟨bo, oo + 1, none⟩ = some (.int .i64 2)) (h2 : W.cell? ⟨bo, oo + 2, none⟩ = some (.int .i64 1)) (l1 : b1 < W.heap.size) (l2 : bo < W.heap.size) :
    Calls Tryd.prog 62 #[.agg #[.int .u8 x, .int .u8 y, .int .u8 z], .pointer (some ⟨b1, 0, none⟩)] W fun e w' => e = .returned (.agg #[.int .u8 x, .int .u8 z, .int .u8 y]) ∧ Below W.heap.size W w' := by
  simp only [Nat.add_zero] at h0
  have q1 : b1 < W.heap.size + 1 := by omega
  have q2 : b1 < W.heap.size + 1 + 1 := by omega
  have q3 : b1 < W.heap.size + 1 + 1 + 1 := by omega
  have q4 : bo < W.heap.size + 1 := by omega
  have q5 : bo < W.heap.size + 1 + 1 := by omega
  have q6 : bo < W.heap.size + 1 + 1 + 1 := by omega
  go_enter Tryd.func62, Tryd.ntmps62
  go_wp2_with (go_at_call 63; refine (pads _).mono ?_; rintro e w' ⟨rfl, rfl⟩)
  refine wp_loop_rounds 4 ?_
  rw [rounds_succ]
  go_wp2
  rw [rounds_succ]
  go_wp2
  rw [rounds_succ]
  go_wp2
  rw [rounds_succ]
  go_wp2
  exact bodyPost_ret (v := .agg #[.int .u8 x, .int .u8 z, .int .u8 y]) (by simp [results, Tryd.results62, go_sem]) rfl ⟨rfl, base_box (base_box (base_box (base_box (Below.refl _ _) _) _) _) _⟩

set_option maxHeartbeats 8000000 in
theorem m102 (x y z : Int) (b1 bo oo co : Nat) (W : World) (hb : W.cell? ⟨b1, 0, none⟩ = some (.slice (some ⟨bo, oo, none⟩) 3 co)) (h0 : W.cell? ⟨bo, oo + 0, none⟩ = some (.int .i64 1)) (h1 : W.cell? ⟨bo, oo + 1, none⟩ = some (.int .i64 0)) (h2 : W.cell? ⟨bo, oo + 2, none⟩ = some (.int .i64 2)) (l1 : b1 < W.heap.size) (l2 : bo < W.heap.size) :
    Calls Tryd.prog 62 #[.agg #[.int .u8 x, .int .u8 y, .int .u8 z], .pointer (some ⟨b1, 0, none⟩)] W fun e w' => e = .returned (.agg #[.int .u8 y, .int .u8 x, .int .u8 z]) ∧ Below W.heap.size W w' := by
  simp only [Nat.add_zero] at h0
  have q1 : b1 < W.heap.size + 1 := by omega
  have q2 : b1 < W.heap.size + 1 + 1 := by omega
  have q3 : b1 < W.heap.size + 1 + 1 + 1 := by omega
  have q4 : bo < W.heap.size + 1 := by omega
  have q5 : bo < W.heap.size + 1 + 1 := by omega
  have q6 : bo < W.heap.size + 1 + 1 + 1 := by omega
  go_enter Tryd.func62, Tryd.ntmps62
  go_wp2_with (go_at_call 63; refine (pads _).mono ?_; rintro e w' ⟨rfl, rfl⟩)
  refine wp_loop_rounds 4 ?_
  rw [rounds_succ]
  go_wp2
  rw [rounds_succ]
  go_wp2
  rw [rounds_succ]
  go_wp2
  rw [rounds_succ]
  go_wp2
  exact bodyPost_ret (v := .agg #[.int .u8 y, .int .u8 x, .int .u8 z]) (by simp [results, Tryd.results62, go_sem]) rfl ⟨rfl, base_box (base_box (base_box (base_box (Below.refl _ _) _) _) _) _⟩

set_option maxHeartbeats 8000000 in
theorem m120 (x y z : Int) (b1 bo oo co : Nat) (W : World) (hb : W.cell? ⟨b1, 0, none⟩ = some (.slice (some ⟨bo, oo, none⟩) 3 co)) (h0 : W.cell? ⟨bo, oo + 0, none⟩ = some (.int .i64 1)) (h1 : W.cell? ⟨bo, oo + 1, none⟩ = some (.int .i64 2)) (h2 : W.cell? ⟨bo, oo + 2, none⟩ = some (.int .i64 0)) (l1 : b1 < W.heap.size) (l2 : bo < W.heap.size) :
    Calls Tryd.prog 62 #[.agg #[.int .u8 x, .int .u8 y, .int .u8 z], .pointer (some ⟨b1, 0, none⟩)] W fun e w' => e = .returned (.agg #[.int .u8 y, .int .u8 z, .int .u8 x]) ∧ Below W.heap.size W w' := by
  simp only [Nat.add_zero] at h0
  have q1 : b1 < W.heap.size + 1 := by omega
  have q2 : b1 < W.heap.size + 1 + 1 := by omega
  have q3 : b1 < W.heap.size + 1 + 1 + 1 := by omega
  have q4 : bo < W.heap.size + 1 := by omega
  have q5 : bo < W.heap.size + 1 + 1 := by omega
  have q6 : bo < W.heap.size + 1 + 1 + 1 := by omega
  go_enter Tryd.func62, Tryd.ntmps62
  go_wp2_with (go_at_call 63; refine (pads _).mono ?_; rintro e w' ⟨rfl, rfl⟩)
  refine wp_loop_rounds 4 ?_
  rw [rounds_succ]
  go_wp2
  rw [rounds_succ]
  go_wp2
  rw [rounds_succ]
  go_wp2
  rw [rounds_succ]
  go_wp2
  exact bodyPost_ret (v := .agg #[.int .u8 y, .int .u8 z, .int .u8 x]) (by simp [results, Tryd.results62, go_sem]) rfl ⟨rfl, base_box (base_box (base_box (base_box (Below.refl _ _) _) _) _) _⟩

set_option maxHeartbeats 8000000 in
theorem m201 (x y z : Int) (b1 bo oo co : Nat) (W : World) (hb : W.cell? ⟨b1, 0, none⟩ = some (.slice (some ⟨bo, oo, none⟩) 3 co)) (h0 : W.cell? ⟨bo, oo + 0, none⟩ = some (.int .i64 2)) (h1 : W.cell? ⟨bo, oo + 1, none⟩ = some (.int .i64 0)) (h2 : W.cell? ⟨bo, oo + 2, none⟩ = some (.int .i64 1)) (l1 : b1 < W.heap.size) (l2 : bo < W.heap.size) :
    Calls Tryd.prog 62 #[.agg #[.int .u8 x, .int .u8 y, .int .u8 z], .pointer (some ⟨b1, 0, none⟩)] W fun e w' => e = .returned (.agg #[.int .u8 z, .int .u8 x, .int .u8 y]) ∧ Below W.heap.size W w' := by
  simp only [Nat.add_zero] at h0
  have q1 : b1 < W.heap.size + 1 := by omega
  have q2 : b1 < W.heap.size + 1 + 1 := by omega
  have q3 : b1 < W.heap.size + 1 + 1 + 1 := by omega
  have q4 : bo < W.heap.size + 1 := by omega
  have q5 : bo < W.heap.size + 1 + 1 := by omega
  have q6 : bo < W.heap.size + 1 + 1 + 1 := by omega
  go_enter Tryd.func62, Tryd.ntmps62
  go_wp2_with (go_at_call 63; refine (pads _).mono ?_; rintro e w' ⟨rfl, rfl⟩)
  refine wp_loop_rounds 4 ?_
  rw [rounds_succ]
  go_wp2
  rw [rounds_succ]
  go_wp2
  rw [rounds_succ]
  go_wp2
  rw [rounds_succ]
  go_wp2
  exact bodyPost_ret (v := .agg #[.int .u8 z, .int .u8 x, .int .u8 y]) (by simp [results, Tryd.results62, go_sem]) rfl ⟨rfl, base_box (base_box (base_box (base_box (Below.refl _ _) _) _) _) _⟩

set_option maxHeartbeats 8000000 in
theorem m210 (x y z : Int) (b1 bo oo co : Nat) (W : World) (hb : W.cell? ⟨b1, 0, none⟩ = some (.slice (some ⟨bo, oo, none⟩) 3 co)) (h0 : W.cell? ⟨bo, oo + 0, none⟩ = some (.int .i64 2)) (h1 : W.cell? ⟨bo, oo + 1, none⟩ = some (.int .i64 1)) (h2 : W.cell? ⟨bo, oo + 2, none⟩ = some (.int .i64 0)) (l1 : b1 < W.heap.size) (l2 : bo < W.heap.size) :
    Calls Tryd.prog 62 #[.agg #[.int .u8 x, .int .u8 y, .int .u8 z], .pointer (some ⟨b1, 0, none⟩)] W fun e w' => e = .returned (.agg #[.int .u8 z, .int .u8 y, .int .u8 x]) ∧ Below W.heap.size W w' := by
  simp only [Nat.add_zero] at h0
  have q1 : b1 < W.heap.size + 1 := by omega
  have q2 : b1 < W.heap.size + 1 + 1 := by omega
  have q3 : b1 < W.heap.size + 1 + 1 + 1 := by omega
  have q4 : bo < W.heap.size + 1 := by omega
  have q5 : bo < W.heap.size + 1 + 1 := by omega
  have q6 : bo < W.heap.size + 1 + 1 + 1 := by omega
  go_enter Tryd.func62, Tryd.ntmps62
  go_wp2_with (go_at_call 63; refine (pads _).mono ?_; rintro e w' ⟨rfl, rfl⟩)
  refine wp_loop_rounds 4 ?_
  rw [rounds_succ]
  go_wp2
  rw [rounds_succ]
  go_wp2
  rw [rounds_succ]
  go_wp2
  rw [rounds_succ]
  go_wp2
  exact bodyPost_ret (v := .agg #[.int .u8 z, .int .u8 y, .int .u8 x]) (by simp [results, Tryd.results62, go_sem]) rfl ⟨rfl, base_box (base_box (base_box (base_box (Below.refl _ _) _) _) _) _⟩

/-- The closure of moved: the letters of a column with the tapes in another order. -/
theorem moveRule (k : Nat) (h1 : 1 ≤ k) (h3 : k ≤ 3) (o : List Nat) (ho : o ∈ orders k) (c : Nat) (hc : c < wide k) (b1 bo oo co : Nat) (W : World) (hb : W.cell? ⟨b1, 0, none⟩ = some (.slice (some ⟨bo, oo, none⟩) k co))
    (hcl : ∀ j, j < k → W.cell? ⟨bo, oo + j, none⟩ = some (.int .i64 ((o.getD j 0 : Nat) : Int))) (l1 : b1 < W.heap.size) (l2 : bo < W.heap.size) :
    Calls Tryd.prog 62 #[lettersV k c, .pointer (some ⟨b1, 0, none⟩)] W fun e w' => e = .returned (lettersV k (putN o c : Nat)) ∧ Below W.heap.size W w' := by
  obtain ⟨-, hp⟩ := put_fin h1 h3 ho hc
  have e0 := hp 0 (by omega)
  have e1 := hp 1 (by omega)
  have e2 := hp 2 (by omega)
  have ev : lettersV k (putN o c : Nat) = .agg #[.int .u8 (letT k (putN o c : Nat) 0), .int .u8 (letT k (putN o c : Nat) 1), .int .u8 (letT k (putN o c : Nat) 2)] := rfl
  rw [ev, ← e0, ← e1, ← e2]
  have : k = 1 ∨ k = 2 ∨ k = 3 := by omega
  rcases this with rfl | rfl | rfl
  all_goals simp [orders] at ho
  · subst ho
    exact (m0 _ _ _ b1 bo oo co W hb (hcl 0 (by omega)) l1 l2)
  · rcases ho with rfl | rfl
    · exact (m01 _ _ _ b1 bo oo co W hb (hcl 0 (by omega)) (hcl 1 (by omega)) l1 l2)
    · exact (m10 _ _ _ b1 bo oo co W hb (hcl 0 (by omega)) (hcl 1 (by omega)) l1 l2)
  · rcases ho with rfl | rfl | rfl | rfl | rfl | rfl
    · exact (m012 _ _ _ b1 bo oo co W hb (hcl 0 (by omega)) (hcl 1 (by omega)) (hcl 2 (by omega)) l1 l2)
    · exact (m021 _ _ _ b1 bo oo co W hb (hcl 0 (by omega)) (hcl 1 (by omega)) (hcl 2 (by omega)) l1 l2)
    · exact (m102 _ _ _ b1 bo oo co W hb (hcl 0 (by omega)) (hcl 1 (by omega)) (hcl 2 (by omega)) l1 l2)
    · exact (m120 _ _ _ b1 bo oo co W hb (hcl 0 (by omega)) (hcl 1 (by omega)) (hcl 2 (by omega)) l1 l2)
    · exact (m201 _ _ _ b1 bo oo co W hb (hcl 0 (by omega)) (hcl 1 (by omega)) (hcl 2 (by omega)) l1 l2)
    · exact (m210 _ _ _ b1 bo oo co W hb (hcl 0 (by omega)) (hcl 1 (by omega)) (hcl 2 (by omega)) l1 l2)
end Go.Proofs.YtgaipjofhkijbaaDoor.MoveI
/- What the program's steps on tapes hand back: a tidy relation in memory of its own, or the error of a limit.
   Conditions: stated at each theorem. -/
namespace Go.Proofs.YtgaipjofhkijbaaDoor.TapeI
set_option linter.unusedVariables false
set_option linter.unusedSimpArgs false
set_option maxRecDepth 100000
open Go.RowKit Go.Maps Mem Copy Rel Valid Heap Bld Columns ColMath SpecFiner Numbers TidyMath TidyAuto TidyRight SpecRight ImplRight ImplTidied ErrCode Automaton TapeMath Reread RereadI MoveI

/-- Three blocks: the box of a relation, of one value, and a result's place. -/
abbrev K3t (t : TypeId) (w : World) (x : Array Value) (F : Value) (W : World) : Prop := Below (w.heap.size + 3) (((w.alloc (.cells x 27)).alloc (.cells #[F] t)).alloc (.cells #[Value.int .i64 0, .int .i64 0, .slice none 0 0, .slice none 0 0] 27)) W
section
variable {t : TypeId} {w W : World} {x : Array Value} {F : Value}
theorem K3t.size3 (t : TypeId) (w : World) (x : Array Value) (F : Value) : (((w.alloc (.cells x 27)).alloc (.cells #[F] t)).alloc (.cells #[Value.int .i64 0, .int .i64 0, .slice none 0 0, .slice none 0 0] 27)).heap.size = w.heap.size + 3 := by rw [size_alloc', size_alloc', size_alloc']
theorem K3t.size (h : K3t t w x F W) : w.heap.size + 3 ≤ W.heap.size := by have := Below.size h; rw [K3t.size3] at this; exact this
theorem K3t.base (h : K3t t w x F W) : Below w.heap.size w W := (base_box (base_box (base_box (Below.refl _ w) _) _) _).trans (Below.mono h (by omega))
theorem K3t.step {W' : World} (h : K3t t w x F W) (hb : Below W.heap.size W W') : K3t t w x F W' := Below.trans h (hb.mono (K3t.size h))
theorem K3t.box (h : K3t t w x F W) : W.heap[w.heap.size]? = some (.cells x 27 (0, 0)) := by
  rw [Below.block h _ (by omega), Below.heap_alloc _ _ _ (by rw [size_alloc', size_alloc']; omega), Below.heap_alloc _ _ _ (by rw [size_alloc']; omega)]; exact heap_alloc_new _ _
theorem K3t.fn (h : K3t t w x F W) : W.heap[w.heap.size + 1]? = some (.cells #[F] t (0, 0)) := by
  rw [Below.block h _ (by omega), Below.heap_alloc _ _ _ (by rw [size_alloc', size_alloc']; omega)]
  have := heap_alloc_new (w.alloc (.cells x 27)) (.cells #[F] t)
  rwa [size_alloc'] at this
theorem K3t.res (h : K3t t w x F W) : W.heap[w.heap.size + 2]? = some (.cells #[Value.int .i64 0, .int .i64 0, .slice none 0 0, .slice none 0 0] 27 (0, 0)) := by
  rw [Below.block h _ (by omega)]
  have := heap_alloc_new ((w.alloc (.cells x 27)).alloc (.cells #[F] t)) (.cells #[Value.int .i64 0, .int .i64 0, .slice none 0 0, .slice none 0 0] 27)
  rwa [size_alloc', size_alloc'] at this
end
theorem orders_len {k : Nat} (h1 : 1 ≤ k) (h3 : k ≤ 3) {o : List Nat} (ho : o ∈ orders k) : o.length = k := by
  have : k = 1 ∨ k = 2 ∨ k = 3 := by omega
  rcases this with rfl | rfl | rfl <;> simp [orders] at ho
  · subst ho; rfl
  · rcases ho with rfl | rfl <;> rfl
  · rcases ho with rfl | rfl | rfl | rfl | rfl | rfl <;> rfl
theorem putL_ok {l : L} (hl : l.Ok) {o : List Nat} (ho : o ∈ orders l.k) : (reL l l.k (putN o)).Ok :=
  reL_ok hl hl.k0 hl.k3 fun c hc => Nat.le_of_lt (put_fin hl.k0 hl.k3 ho hc).1

set_option maxHeartbeats 8000000 in
theorem movedI (l : L) (hl : l.Ok) (o : List Nat) (ho : o ∈ orders l.k) (v ov : Value) (w : World) (B : Nat) (h : RelAt w B v (relOf l)) (hov : Ints w B ov (o.map Int.ofNat)) (hB : B ≤ w.heap.size) (hn : l.acc.length ≤ 100000) :
    Calls Tryd.prog 41 #[v, ov] w fun e w' => ∃ va vn, e = .returned (.tuple #[.agg #[.int .i64 (fewK (reL l l.k (putN o)) 150), .int .i64 0, va, vn], errV (fewB (reL l l.k (putN o)) 150) 150]) ∧ Built w' w.heap.size va vn (fewA (reL l l.k (putN o)) 150) (fewN (reL l l.k (putN o)) 150) ∧ Below w.heap.size w w' := by
  have hk1 := hl.k0
  have hk3 := hl.k3
  have hol := orders_len hk1 hk3 ho
  have hcf : ∀ (args : Array Value) (W : World), (callFunc 62 args).run Tryd.prog W = .ok (.enter 62 args) W := fun _ _ => rfl
  obtain ⟨ao, bo, oo, co, rfl, -, hao, hco⟩ := hov
  have hol' : (o.map Int.ofNat).length = l.k := by rw [List.length_map, hol]
  rw [hol'] at hao hco ⊢
  obtain ⟨rfl, hbo⟩ := hao (by omega)


  have HRR := Lib.hid (fun x W (hW : K3t 34 w x (.slice (some ⟨bo, oo, none⟩) l.k co) W) => rereadI l hl l.k hk1 hk3 (putN o) (fun c hc => Nat.le_of_lt (put_fin hk1 hk3 ho hc).1) v W B (h.below (K3t.base hW) hB) (by have := K3t.size hW; omega) hn 62 #[.pointer (some ⟨w.heap.size + 1, 0, none⟩)] hcf
    (fun W' hW' c hc => moveRule l.k hk1 hk3 o ho c hc (w.heap.size + 1) bo oo co W' (by rw [cells_get (K3t.fn (K3t.step hW hW'))]; rfl)
      (fun j hj => by
        have hbb := K3t.base (K3t.step hW hW')
        rw [hbb.cell (p := ⟨bo, oo + j, none⟩) (Nat.lt_of_lt_of_le hbo hB), hco j hj]
        have hj' : j < o.length := by omega
        simp [List.getD, hj']) (by have := K3t.size (K3t.step hW hW'); omega) (by have := K3t.size (K3t.step hW hW'); omega)))
  have HTS := Lib.hid (fun W u (hu : RelAt W W.heap.size u (relOf (reL l l.k (putN o)))) => tidyStepI (reL l l.k (putN o)) (putL_ok hl ho) u W W.heap.size hu (Nat.le_refl _) hn)
  obtain ⟨K, hK⟩ : ∃ K, K = fewK (reL l l.k (putN o)) 150 := ⟨_, rfl⟩
  obtain ⟨A, hA⟩ : ∃ A, A = fewA (reL l l.k (putN o)) 150 := ⟨_, rfl⟩
  obtain ⟨N, hN⟩ : ∃ N, N = fewN (reL l l.k (putN o)) 150 := ⟨_, rfl⟩
  obtain ⟨Q, hQ⟩ : ∃ Q, Q = fewB (reL l l.k (putN o)) 150 := ⟨_, rfl⟩
  rw [← hK, ← hA, ← hN, ← hQ] at HTS
  rw [← hK, ← hA, ← hN, ← hQ]
  clear hK hA hN hQ hol hol' hco hbo
  obtain ⟨va, vn, rfl, ha, hx⟩ := h
  obtain ⟨aa, ba, oa, ca, rfl, -, -, -⟩ := ha
  obtain ⟨-, ⟨ab, bb, ob, cb, rfl, -, -, -⟩, -⟩ := hx
  obtain ⟨k, hk⟩ : ∃ k : Int, k = (relOf l).tapes := ⟨_, rfl⟩
  obtain ⟨st, hs⟩ : ∃ st : Int, st = (relOf l).start := ⟨_, rfl⟩
  obtain ⟨na, hna⟩ : ∃ na, na = (relOf l).accept.length := ⟨_, rfl⟩
  obtain ⟨nb, hnb⟩ : ∃ nb, nb = (relOf l).next.length := ⟨_, rfl⟩
  have HKK := Lib.hid (show ((l.k : Nat) : Int) = k from hk.symm)
  rw [← hk, ← hs, ← hna, ← hnb] at HRR
  rw [← hk, ← hs, ← hna, ← hnb]
  have HK0 := Lib.hid (show K3t 34 w #[.int .i64 k, .int .i64 st, .slice aa na ca, .slice ab nb cb] (.slice (some ⟨bo, oo, none⟩) l.k co) (((w.alloc (.cells #[.int .i64 k, .int .i64 st, .slice aa na ca, .slice ab nb cb] 27)).alloc (.cells #[.slice (some ⟨bo, oo, none⟩) l.k co] 34)).alloc (.cells #[Value.int .i64 0, .int .i64 0, .slice none 0 0, .slice none 0 0] 27)) from Below.refl _ _)
  have HR1 := Lib.hid (HRR.out _ _ HK0.out)
  rw [HKK.out] at HR1
  obtain ⟨nk, hnk⟩ : ∃ n, n = l.k := ⟨_, rfl⟩
  rw [← hnk] at HK0 HR1 HTS ⊢
  have hmf : ∀ (fn : Fn) (first cap : Array Value) (w : World), (Instr.makeFunc fn first cap).run Tryd.prog w = .ok (.func fn first cap) w := fun _ _ _ _ => rfl
  have hs3 := K3t.size3 34 w #[.int .i64 k, .int .i64 st, .slice aa na ca, .slice ab nb cb] (.slice (some ⟨bo, oo, none⟩) nk co)
  have HS3 := Lib.hid hs3
  clear hk hs hna hnb hnk HRR hB hn hl ho hcf hk1 hk3 hs3
  go_enter Tryd.func41, Tryd.ntmps41
  go_wp2_with fail
  refine HR1.out.mono ?_
  rintro e w2 ⟨va2, vn2, rfl, hr2, hb2⟩
  rw [HS3.out] at hb2
  have hk2 : K3t 34 w #[.int .i64 k, .int .i64 st, .slice aa na ca, .slice ab nb cb] (.slice (some ⟨bo, oo, none⟩) nk co) w2 := hb2
  have HS2 := Lib.hid (HTS.out w2 _ hr2)
  obtain ⟨va2', vn2', e2, h2a, h2n⟩ := hr2
  injection e2 with e2
  replace e2 := congrArg Array.toList e2
  simp only [List.cons.injEq, and_true] at e2
  obtain ⟨-, -, rfl, rfl⟩ := e2
  obtain ⟨a2, -, -, c2, rfl, -, -, -⟩ := h2a
  obtain ⟨-, ⟨b2, -, -, d2, rfl, -, -, -⟩, -⟩ := h2n
  obtain ⟨Z, hZ⟩ : ∃ Z, Z = w.heap.size + 2 := ⟨_, rfl⟩
  have HBASE := Lib.hid (K3t.base hk2)
  have HZR := Lib.hid (show w2.heap[Z]? = some (.cells #[Value.int .i64 0, .int .i64 0, .slice none 0 0, .slice none 0 0] 27 (0, 0)) by rw [hZ]; exact K3t.res hk2)
  have HLZ := Lib.hid (show Z < w2.heap.size by have := K3t.size hk2; omega)
  have HZW := Lib.hid (show w.heap.size ≤ Z by omega)
  have HZE := Lib.hid (show w.heap.size + 1 + 1 = Z by omega)
  clear hb2 hk2 hZ HTS HR1 HK0 HS3
  go_wp2_with fail
  refine HS2.out.mono ?_
  rintro e w3 ⟨va, vn, rfl, hbu, hb3⟩
  have HR3 := Lib.hid (show Res0 w Z w3 from ⟨HBASE.out.trans (hb3.mono HBASE.out.size), by rw [hb3.block Z HLZ.out]; exact HZR.out, HZW.out⟩)
  have HB3 := Lib.hid (show Built w3 (Z + 1) va vn A N from hbu.mono HLZ.out)
  clear hb3 hbu
  have hres := HR3.out.res
  obtain ⟨a7, n7, c7, rfl, -⟩ := HB3.out.acc.shape'
  obtain ⟨items7, -, hnx7, -⟩ := HB3.out.rows
  obtain ⟨b7, m7, d7, rfl, -⟩ := hnx7.shape'
  have r0 := cells_get hres 0
  have r1 := cells_get hres 1
  have r2 := cells_get hres 2
  have r3 := cells_get hres 3
  have f0 := cells_free hres 0
  have f1 := cells_free hres 1
  have f2 := cells_free hres 2
  have f3 := cells_free hres 3
  have hlS := HR3.out.lt
  have p0 := cells_set hres 0 (.int .i64 K)
  have p1 := cells_set p0 1 (.int .i64 0)
  have p2 := cells_set p1 2 (.slice a7 n7 c7)
  have p3 := cells_set p2 3 (.slice b7 m7 d7)
  simp at r0 r1 r2 r3 p3
  have g0 := cells_get p3 0
  have g1 := cells_get p3 1
  have g2 := cells_get p3 2
  have g3 := cells_get p3 3
  simp at g0 g1 g2 g3
  have HG := Lib.hid (And.intro g0 (And.intro g1 (And.intro g2 g3)))
  clear p0 p1 p2 p3 g0 g1 g2 g3 hres hnx7
  rw [HZE.out]
  go_wp2_with fail
  obtain ⟨g0, g1, g2, g3⟩ := HG.out
  refine bodyPost_ret (v := .tuple #[.agg #[.int .i64 K, .int .i64 0, .slice a7 n7 c7, .slice b7 m7 d7], errV Q 150]) (by simp [results, Tryd.results41, go_sem, g0, g1, g2, g3]) rfl ⟨.slice a7 n7 c7, .slice b7 m7 d7, rfl, ?_, ?_⟩
  · have hZ1 : Z < Z + 1 := Nat.lt_succ_self _
    exact (((((HB3.out.setLow (a := ⟨Z, 0, none⟩) hZ1 _).setLow (a := ⟨Z, 1, none⟩) hZ1 _).setLow (a := ⟨Z, 2, none⟩) hZ1 _).setLow (a := ⟨Z, 3, none⟩) hZ1 _).mono (by have := HZW.out; omega))
  · exact ((((HR3.out.base.setCell (p := ⟨Z, 0, none⟩) HR3.out.hR _).setCell (p := ⟨Z, 1, none⟩) HR3.out.hR _).setCell (p := ⟨Z, 2, none⟩) HR3.out.hR _).setCell (p := ⟨Z, 3, none⟩) HR3.out.hR _)
end Go.Proofs.YtgaipjofhkijbaaDoor.TapeI
/- The letters of a column without those of a tape: what the program's withoutLetter hands back.
   Conditions: the tape is one of three. -/
namespace Go.Proofs.YtgaipjofhkijbaaDoor.WithoutI
set_option linter.unusedVariables false
set_option linter.unusedSimpArgs false
set_option maxRecDepth 100000
open Go.RowKit Mem Copy Rel Heap Bld Columns Numbers TidyRight TapeMath

theorem step_copy_run {P : Program} {ops : Array Oper} {o : Oper} {a : Act} {w : World} {K : Act → World → Prop} {Q : Exit → Act → World → Prop} {E : Prop} (hgd : o.guard = none) (d s : Operand) (dT sT : TypeId)
    (ho : o.op = .call { callee := .builtin .copy, args := #[d, s], argTypes := #[dT, sT] }) (vd vs : Value) (hd : a.eval d = vd) (hs : a.eval s = vs) (n : Nat) (w' : World)
    (hrun : (Builtin.copy_ #[dT, sT] o.type #[vd, vs]).run P w = .ok (goInt n) w') (h : K (a.put o.dst (goInt n)) w') :
    if Region.wanted o (yielded ops a.tmps) = true then Oper.wp P o a w K Q else E := by
  have hw : Region.wanted o (yielded ops a.tmps) = true := by simp [Region.wanted, hgd]
  rw [if_pos hw]
  unfold Oper.wp
  simp [execOp, ho, resolve, invoke, builtin, hd, hs, hrun, Result.andThen]
  exact h
theorem res3 {W : World} {N : Nat} {a b c x y z : Value} {t : TypeId} (h : W.heap[N]? = some (.cells #[x, y, z] t (0, 0))) :
    (((W.setCell ⟨N, 0, none⟩ a).setCell ⟨N, 1, none⟩ b).setCell ⟨N, 2, none⟩ c).cell? ⟨N, 0, none⟩ = some a ∧ (((W.setCell ⟨N, 0, none⟩ a).setCell ⟨N, 1, none⟩ b).setCell ⟨N, 2, none⟩ c).cell? ⟨N, 1, none⟩ = some b ∧ (((W.setCell ⟨N, 0, none⟩ a).setCell ⟨N, 1, none⟩ b).setCell ⟨N, 2, none⟩ c).cell? ⟨N, 2, none⟩ = some c := by
  have p2 := cells_set (cells_set (cells_set h 0 a) 1 b) 2 c
  simp at p2
  exact ⟨by rw [cells_get p2]; rfl, by rw [cells_get p2]; rfl, by rw [cells_get p2]; rfl⟩
theorem infoB : (Tryd.prog.info? 5).map (·.size) = some 1 := by kernel_rfl

set_option maxHeartbeats 4000000 in
theorem without0 (x y z : Int) (w : World) : Calls Tryd.prog 84 #[.agg #[.int .u8 x, .int .u8 y, .int .u8 z], .int .i64 0] w fun e w' => e = .returned (.agg #[.int .u8 y, .int .u8 z, .int .u8 35]) ∧ Below w.heap.size w w' := by
  obtain ⟨W, hW⟩ : ∃ W, W = ((w.alloc (.cells #[.int .u8 x, .int .u8 y, .int .u8 z] 80)).alloc (.cells #[Value.int .u8 0, .int .u8 0, .int .u8 0] 80)) := ⟨_, rfl⟩
  have hb0 : W.heap[w.heap.size]? = some (.cells #[.int .u8 x, .int .u8 y, .int .u8 z] 80 (0, 0)) := by
    rw [hW, Below.heap_alloc _ _ _ (by simp)]; exact heap_alloc_new _ _
  have hb1 : W.heap[w.heap.size + 1]? = some (.cells #[Value.int .u8 0, .int .u8 0, .int .u8 0] 80 (0, 0)) := by
    have := heap_alloc_new (w.alloc (.cells #[.int .u8 x, .int .u8 y, .int .u8 z] 80)) (.cells #[Value.int .u8 0, .int .u8 0, .int .u8 0] 80)
    rw [hW]; simpa using this
  have HBW := Lib.hid (show Below w.heap.size w W by rw [hW]; exact ((Below.refl _ w).alloc (Nat.le_refl _) _).alloc (by simp) _)
  have hcp : (Builtin.copy_ #[107, 107] 3 #[.slice (some ⟨w.heap.size, 0, none⟩) 3 3, .slice (some ⟨w.heap.size, 1, none⟩) 2 2]).run Tryd.prog W.drew = .ok (goInt 2) (W.drew.setCells w.heap.size 0 [.int .u8 y, .int .u8 z]) :=
    run_copy_cells W.drew _ _ _ 5 w.heap.size 0 3 3 ⟨w.heap.size, 1, none⟩ 2 2 [.int .u8 y, .int .u8 z] Tryd.underlying107 infoB rfl
      (fun j v hj => by
        have ea : Addr.add ⟨w.heap.size, 1, none⟩ j = ⟨w.heap.size, 1 + j, none⟩ := by simp [Addr.add]
        rw [ea]
        show W.cell? ⟨w.heap.size, 1 + j, none⟩ = some v
        rw [cells_get hb0]
        revert hj; match j with
        | 0 => intro hj; first | simpa using hj | (simp at hj)
        | 1 => intro hj; first | (simp at hj; done) | simpa using hj
        | j + 2 => intro hj; simp at hj)
      (fun j hj => by
        show (W.cell? ⟨w.heap.size, 0 + j, none⟩).isSome = true
        rw [cells_get hb0]
        simp at hj
        first
          | omega
          | (have : j = 0 ∨ j = 1 := by omega
             rcases this with rfl | rfl <;> rfl))
      (fun j hj => cells_free hb0 _) (fun v hv => by
        simp at hv
        first
          | (rcases hv with rfl | rfl <;> rfl)
          | (subst hv; rfl))
  have hwr : IntKind.i64.wrap 1 = 1 := rfl
  go_enter Tryd.func84, Tryd.ntmps84
  go_wp2_with fail
  rw [← hW]
  clear hW
  go_region_law (refine step_copy_run (by rfl) _ _ _ _ (by rfl) _ _ (by rfl) (by rfl) 2 _ hcp ?_)
  all_goals
    clear hcp
    have x0 := cells_get hb0 0
    have x1 := cells_get hb0 1
    have x2 := cells_get hb0 2
    have f0 := cells_free hb0 0
    have f1 := cells_free hb0 1
    have f2 := cells_free hb0 2
    have y0 := cells_get hb1 0
    have y1 := cells_get hb1 1
    have y2 := cells_get hb1 2
    have g0 := cells_free hb1 0
    have g1 := cells_free hb1 1
    have g2 := cells_free hb1 2
    simp at x0 x1 x2 y0 y1 y2
    simp only [World.setCells, Nat.reduceAdd]
    go_wp2_with fail
    obtain ⟨r0, r1, r2⟩ := res3 (W := (((W.setCell ⟨w.heap.size, 0, none⟩ (.int .u8 y)).setCell ⟨w.heap.size, 1, none⟩ (.int .u8 z)).setCell ⟨w.heap.size, 2, none⟩ (.int .u8 35))) (N := w.heap.size + 1) (a := .int .u8 y) (b := .int .u8 z) (c := .int .u8 35) (by first | (repeat rw [Below.heap_setCell _ _ _ _ (by simp)]); exact hb1)
    refine bodyPost_ret (v := .agg #[.int .u8 y, .int .u8 z, .int .u8 35]) (by simp [results, Tryd.results84, go_sem, r0, r1, r2]) rfl ⟨rfl, ?_⟩
    exact ((((((HBW.out.setCell (p := ⟨w.heap.size, 0, none⟩) (Nat.le_refl _) _).setCell (p := ⟨w.heap.size, 1, none⟩) (Nat.le_refl _) _).setCell (p := ⟨w.heap.size, 2, none⟩) (Nat.le_refl _) _).setCell (p := ⟨w.heap.size + 1, 0, none⟩) (Nat.le_succ _) _).setCell (p := ⟨w.heap.size + 1, 1, none⟩) (Nat.le_succ _) _).setCell (p := ⟨w.heap.size + 1, 2, none⟩) (Nat.le_succ _) _).drew

set_option maxHeartbeats 4000000 in
theorem without1 (x y z : Int) (w : World) : Calls Tryd.prog 84 #[.agg #[.int .u8 x, .int .u8 y, .int .u8 z], .int .i64 1] w fun e w' => e = .returned (.agg #[.int .u8 x, .int .u8 z, .int .u8 35]) ∧ Below w.heap.size w w' := by
  obtain ⟨W, hW⟩ : ∃ W, W = ((w.alloc (.cells #[.int .u8 x, .int .u8 y, .int .u8 z] 80)).alloc (.cells #[Value.int .u8 0, .int .u8 0, .int .u8 0] 80)) := ⟨_, rfl⟩
  have hb0 : W.heap[w.heap.size]? = some (.cells #[.int .u8 x, .int .u8 y, .int .u8 z] 80 (0, 0)) := by
    rw [hW, Below.heap_alloc _ _ _ (by simp)]; exact heap_alloc_new _ _
  have hb1 : W.heap[w.heap.size + 1]? = some (.cells #[Value.int .u8 0, .int .u8 0, .int .u8 0] 80 (0, 0)) := by
    have := heap_alloc_new (w.alloc (.cells #[.int .u8 x, .int .u8 y, .int .u8 z] 80)) (.cells #[Value.int .u8 0, .int .u8 0, .int .u8 0] 80)
    rw [hW]; simpa using this
  have HBW := Lib.hid (show Below w.heap.size w W by rw [hW]; exact ((Below.refl _ w).alloc (Nat.le_refl _) _).alloc (by simp) _)
  have hcp : (Builtin.copy_ #[107, 107] 3 #[.slice (some ⟨w.heap.size, 1, none⟩) 2 2, .slice (some ⟨w.heap.size, 2, none⟩) 1 1]).run Tryd.prog W.drew = .ok (goInt 1) (W.drew.setCells w.heap.size 1 [.int .u8 z]) :=
    run_copy_cells W.drew _ _ _ 5 w.heap.size 1 2 2 ⟨w.heap.size, 2, none⟩ 1 1 [.int .u8 z] Tryd.underlying107 infoB rfl
      (fun j v hj => by
        have ea : Addr.add ⟨w.heap.size, 2, none⟩ j = ⟨w.heap.size, 2 + j, none⟩ := by simp [Addr.add]
        rw [ea]
        show W.cell? ⟨w.heap.size, 2 + j, none⟩ = some v
        rw [cells_get hb0]
        revert hj; match j with
        | 0 => intro hj; first | simpa using hj | (simp at hj)
        | 1 => intro hj; first | (simp at hj; done) | simpa using hj
        | j + 2 => intro hj; simp at hj)
      (fun j hj => by
        show (W.cell? ⟨w.heap.size, 1 + j, none⟩).isSome = true
        rw [cells_get hb0]
        simp at hj
        first
          | omega
          | (have : j = 0 ∨ j = 1 := by omega
             rcases this with rfl | rfl <;> rfl))
      (fun j hj => cells_free hb0 _) (fun v hv => by
        simp at hv
        first
          | (rcases hv with rfl | rfl <;> rfl)
          | (subst hv; rfl))
  have hwr : IntKind.i64.wrap 2 = 2 := rfl
  go_enter Tryd.func84, Tryd.ntmps84
  go_wp2_with fail
  rw [← hW]
  clear hW
  go_region_law (refine step_copy_run (by rfl) _ _ _ _ (by rfl) _ _ (by rfl) (by rfl) 1 _ hcp ?_)
  all_goals
    clear hcp
    have x0 := cells_get hb0 0
    have x1 := cells_get hb0 1
    have x2 := cells_get hb0 2
    have f0 := cells_free hb0 0
    have f1 := cells_free hb0 1
    have f2 := cells_free hb0 2
    have y0 := cells_get hb1 0
    have y1 := cells_get hb1 1
    have y2 := cells_get hb1 2
    have g0 := cells_free hb1 0
    have g1 := cells_free hb1 1
    have g2 := cells_free hb1 2
    simp at x0 x1 x2 y0 y1 y2
    simp only [World.setCells, Nat.reduceAdd]
    go_wp2_with fail
    obtain ⟨r0, r1, r2⟩ := res3 (W := ((W.setCell ⟨w.heap.size, 1, none⟩ (.int .u8 z)).setCell ⟨w.heap.size, 2, none⟩ (.int .u8 35))) (N := w.heap.size + 1) (a := .int .u8 x) (b := .int .u8 z) (c := .int .u8 35) (by first | (repeat rw [Below.heap_setCell _ _ _ _ (by simp)]); exact hb1)
    refine bodyPost_ret (v := .agg #[.int .u8 x, .int .u8 z, .int .u8 35]) (by simp [results, Tryd.results84, go_sem, r0, r1, r2]) rfl ⟨rfl, ?_⟩
    exact (((((HBW.out.setCell (p := ⟨w.heap.size, 1, none⟩) (Nat.le_refl _) _).setCell (p := ⟨w.heap.size, 2, none⟩) (Nat.le_refl _) _).setCell (p := ⟨w.heap.size + 1, 0, none⟩) (Nat.le_succ _) _).setCell (p := ⟨w.heap.size + 1, 1, none⟩) (Nat.le_succ _) _).setCell (p := ⟨w.heap.size + 1, 2, none⟩) (Nat.le_succ _) _).drew

set_option maxHeartbeats 4000000 in
theorem without2 (x y z : Int) (w : World) : Calls Tryd.prog 84 #[.agg #[.int .u8 x, .int .u8 y, .int .u8 z], .int .i64 2] w fun e w' => e = .returned (.agg #[.int .u8 x, .int .u8 y, .int .u8 35]) ∧ Below w.heap.size w w' := by
  obtain ⟨W, hW⟩ : ∃ W, W = ((w.alloc (.cells #[.int .u8 x, .int .u8 y, .int .u8 z] 80)).alloc (.cells #[Value.int .u8 0, .int .u8 0, .int .u8 0] 80)) := ⟨_, rfl⟩
  have hb0 : W.heap[w.heap.size]? = some (.cells #[.int .u8 x, .int .u8 y, .int .u8 z] 80 (0, 0)) := by
    rw [hW, Below.heap_alloc _ _ _ (by simp)]; exact heap_alloc_new _ _
  have hb1 : W.heap[w.heap.size + 1]? = some (.cells #[Value.int .u8 0, .int .u8 0, .int .u8 0] 80 (0, 0)) := by
    have := heap_alloc_new (w.alloc (.cells #[.int .u8 x, .int .u8 y, .int .u8 z] 80)) (.cells #[Value.int .u8 0, .int .u8 0, .int .u8 0] 80)
    rw [hW]; simpa using this
  have HBW := Lib.hid (show Below w.heap.size w W by rw [hW]; exact ((Below.refl _ w).alloc (Nat.le_refl _) _).alloc (by simp) _)
  have hcp : (Builtin.copy_ #[107, 107] 3 #[.slice (some ⟨w.heap.size, 2, none⟩) 1 1, .slice (some ⟨w.heap.size, 0, none⟩) 0 0]).run Tryd.prog W.drew = .ok (goInt 0) W.drew :=
    run_copy_none W.drew _ _ _ 5 _ _ 1 1 0 0 Tryd.underlying107 infoB rfl
  have hwr : IntKind.i64.wrap 3 = 3 := rfl
  go_enter Tryd.func84, Tryd.ntmps84
  go_wp2_with fail
  rw [← hW]
  clear hW
  go_region_law (refine step_copy_run (by rfl) _ _ _ _ (by rfl) _ _ (by rfl) (by rfl) 0 _ hcp ?_)
  all_goals
    clear hcp
    have x0 := cells_get hb0 0
    have x1 := cells_get hb0 1
    have x2 := cells_get hb0 2
    have f0 := cells_free hb0 0
    have f1 := cells_free hb0 1
    have f2 := cells_free hb0 2
    have y0 := cells_get hb1 0
    have y1 := cells_get hb1 1
    have y2 := cells_get hb1 2
    have g0 := cells_free hb1 0
    have g1 := cells_free hb1 1
    have g2 := cells_free hb1 2
    simp at x0 x1 x2 y0 y1 y2
    skip
    go_wp2_with fail
    obtain ⟨r0, r1, r2⟩ := res3 (W := (W.setCell ⟨w.heap.size, 2, none⟩ (.int .u8 35))) (N := w.heap.size + 1) (a := .int .u8 x) (b := .int .u8 y) (c := .int .u8 35) (by first | (repeat rw [Below.heap_setCell _ _ _ _ (by simp)]); exact hb1)
    refine bodyPost_ret (v := .agg #[.int .u8 x, .int .u8 y, .int .u8 35]) (by simp [results, Tryd.results84, go_sem, r0, r1, r2]) rfl ⟨rfl, ?_⟩
    exact ((((HBW.out.setCell (p := ⟨w.heap.size, 2, none⟩) (Nat.le_refl _) _).setCell (p := ⟨w.heap.size + 1, 0, none⟩) (Nat.le_succ _) _).setCell (p := ⟨w.heap.size + 1, 1, none⟩) (Nat.le_succ _) _).setCell (p := ⟨w.heap.size + 1, 2, none⟩) (Nat.le_succ _) _).drew
end Go.Proofs.YtgaipjofhkijbaaDoor.WithoutI
