
/- The program's limited, where it repeats a transducer.
   Conditions: the transducer lies in a box, and is valid. -/
import Derived.Test.YtjoiaenkmmmmpaaLim
namespace Go.Proofs.Ytjoiaenkmmmmpaa.Lim2
set_option linter.unusedVariables false
set_option linter.unusedSimpArgs false
set_option maxRecDepth 100000
open Go.RowKit Mem Copy Rel Heap MarkRow Edg EdgCopy EdgEq TrHeap TrLawKit TrValid TrImplValid TurnImpl TurnSpec TrReach TrReached TrimKit AddSpec ToldTr Grow GrowS RepSpec GrowN RepImpl LimC

set_option maxHeartbeats 4000000 in
theorem limited (t : T) (aa ab : Option Addr) (n ca q cb : Nat) (bp : Nat) (w : World) (B : Nat) (hp : TrPtr w B bp t (.slice aa n ca) (.slice ab q cb)) (hB : B ≤ w.heap.size) (hok : okT t = true) (hins : Inside t.accept.length t.edges) :
    Calls Try.prog 55 #[.func (.func 56) #[] #[.pointer (some ⟨bp, 0, none⟩)]] w fun e w' => Below w.heap.size w w' ∧
      ((fitsT (repA t) (repN t) = true ∧ ∃ va vn, e = .returned (.tuple #[.agg #[.int .i64 0, va, vn], .int .i64 0]) ∧ BuiltT w' w.heap.size va vn (repA t) (repN t)) ∨
        (fitsT (repA t) (repN t) = false ∧ e = .returned (.tuple #[.agg #[.int .i64 0, .slice none 0 0, .slice none 0 0], .int .i64 3]))) := by
  have HR := Lib.hid (fun W (hb : Below w.heap.size w W) => Lim.built t aa ab n ca q cb bp W B ⟨hp.box.step hb, hp.acc.below hb hB, hp.edges.below hb hB⟩ (Nat.le_trans hB hb.size) hok hins)
  obtain ⟨⟨c0, c1, c2, hlt⟩, -, -⟩ := hp
  have hmf : ∀ (fn : Fn) (first cap : Array Value) (w : World), (Instr.makeFunc fn first cap).run Try.prog w = .ok (.func fn first cap) w := fun _ _ _ _ => rfl
  have HB0 := Lib.hid (base_box (base_box (Below.refl _ w) (.cells #[Value.int .i64 0, .slice none 0 0, .slice none 0 0] 30)) (.cells #[Value.int .i64 0] 2))
  go_enter_defers Try.func55, Try.ntmps55
  go_wp2_with fail
  refine (HR.out _ HB0.out).mono ?_
  rintro e w1 ⟨hb, ⟨hf, va', vn', rfl, hbu⟩ | ⟨hf, rfl⟩⟩
  · have hS : w1.heap[w.heap.size]? = some (.cells #[Value.int .i64 0, .slice none 0 0, .slice none 0 0] 30 (0, 0)) := by
      rw [hb.block _ (by rw [size_alloc', size_alloc']; omega), Below.heap_alloc _ _ _ (by rw [size_alloc']; omega)]; exact heap_alloc_new _ _
    have hT : w1.heap[w.heap.size + 1]? = some (.cells #[Value.int .i64 0] 2 (0, 0)) := by
      rw [hb.block _ (by rw [size_alloc', size_alloc']; omega)]
      have h1 := heap_alloc_new (w.alloc (.cells #[Value.int .i64 0, .slice none 0 0, .slice none 0 0] 30)) (.cells #[Value.int .i64 0] 2)
      rwa [size_alloc'] at h1
    obtain ⟨a4, n4, c4, rfl, -⟩ := hbu.acc.shape'
    obtain ⟨b4, m4, d4, rfl, -⟩ := hbu.edg.shape'
    have r0 := (cell_of_block hS 0).1
    have r1 := (cell_of_block hS 1).1
    have r2 := (cell_of_block hS 2).1
    have r3 := (cell_of_block hS 0).2
    have r4 := (cell_of_block hS 1).2
    have r5 := (cell_of_block hS 2).2
    have r6 := (cell_of_block hT 0).1
    have r7 := (cell_of_block hT 0).2
    simp at r0 r1 r2 r6
    have l1 := lt_of_block hS
    have l2 := lt_of_block hT
    have HF := Lib.hid hf
    have HBU := Lib.hid (show BuiltT w1 (w.heap.size + 2) (.slice a4 n4 c4) (.slice b4 m4 d4) (repA t) (repN t) by have := hbu; rwa [size_alloc', size_alloc'] at this)
    have HB := Lib.hid (base_step HB0.out hb)
    have HS := Lib.hid hS
    have HT := Lib.hid hT
    clear hb hf hbu HR HB0 hS hT
    go_wp2
    refine leaves_cons (f := 80) (args := #[.pointer (some ⟨w.heap.size + 1, 0, none⟩)]) (by simp) (by simp [go_sem]) ?_
    refine (idle ⟨w.heap.size + 1, 0, none⟩ _).mono ?_
    rintro e u' w'' ⟨rfl, rfl, rfl⟩
    have h1 : ((put3 w1 w.heap.size (.int .i64 0) (.slice a4 n4 c4) (.slice b4 m4 d4)).setCell ⟨w.heap.size + 1, 0, none⟩ (.int .i64 0)).heap[w.heap.size]? = some (.cells #[.int .i64 0, .slice a4 n4 c4, .slice b4 m4 d4] 30 (0, 0)) :=
      (Below.heap_setCell _ _ _ _ (by show w.heap.size ≠ w.heap.size + 1; omega)).trans (put3_block HS.out)
    have h2 : (put3 w1 w.heap.size (.int .i64 0) (.slice a4 n4 c4) (.slice b4 m4 d4)).heap[w.heap.size + 1]? = some (.cells #[.int .i64 0] 2 (0, 0)) :=
      (Below.heap_setCell _ _ _ _ (by show w.heap.size + 1 ≠ w.heap.size; omega)).trans ((Below.heap_setCell _ _ _ _ (by show w.heap.size + 1 ≠ w.heap.size; omega)).trans ((Below.heap_setCell _ _ _ _ (by show w.heap.size + 1 ≠ w.heap.size; omega)).trans HT.out))
    have h3 : ((put3 w1 w.heap.size (.int .i64 0) (.slice a4 n4 c4) (.slice b4 m4 d4)).setCell ⟨w.heap.size + 1, 0, none⟩ (.int .i64 0)).heap[w.heap.size + 1]? = some (.cells #[.int .i64 0] 2 (0, 0)) := blk_set h2
    have g0 := (cell_of_block h1 0).1
    have g1 := (cell_of_block h1 1).1
    have g2 := (cell_of_block h1 2).1
    have g3 := (cell_of_block h3 0).1
    simp at g0 g1 g2 g3
    simp [Leaves, settle, results, Try.results55, go_sem, g0, g1, g2, g3]
    exact ⟨Below.setCell (put3_below HB.out (Nat.le_refl _)) (p := ⟨w.heap.size + 1, 0, none⟩) (Nat.le_succ _) _, HF.out, _, _, ⟨rfl, rfl⟩, BuiltT.mono (BuiltT.setLow (BuiltT.put3 HBU.out (by omega)) (a := ⟨w.heap.size + 1, 0, none⟩) (by show w.heap.size + 1 < w.heap.size + 2; omega) _) (by omega)⟩
  · have hS : w1.heap[w.heap.size]? = some (.cells #[Value.int .i64 0, .slice none 0 0, .slice none 0 0] 30 (0, 0)) := by
      rw [hb.block _ (by rw [size_alloc', size_alloc']; omega), Below.heap_alloc _ _ _ (by rw [size_alloc']; omega)]; exact heap_alloc_new _ _
    have hT : w1.heap[w.heap.size + 1]? = some (.cells #[Value.int .i64 0] 2 (0, 0)) := by
      rw [hb.block _ (by rw [size_alloc', size_alloc']; omega)]
      have h1 := heap_alloc_new (w.alloc (.cells #[Value.int .i64 0, .slice none 0 0, .slice none 0 0] 30)) (.cells #[Value.int .i64 0] 2)
      rwa [size_alloc'] at h1
    have HF := Lib.hid hf
    have HB := Lib.hid (base_step HB0.out hb)
    have HS := Lib.hid hS
    have HT := Lib.hid hT
    clear hb hf HR HB0 hS hT
    go_wp2
    refine leaves_cons (f := 80) (args := #[.pointer (some ⟨w.heap.size + 1, 0, none⟩)]) (by simp) (by simp [go_sem]) ?_
    refine (caught (w.heap.size + 1) (.int .i64 0) _ (by have := (cell_of_block HT.out 0).1; simpa using this) (cell_of_block HT.out 0).2 (lt_of_block HT.out)).mono ?_
    rintro e u' w'' ⟨rfl, rfl, rfl⟩
    have h2 : ((w1.setCell ⟨w.heap.size + 1, 0, none⟩ (.int .i64 3)).setCell ⟨w.heap.size + 1, 0, none⟩ (.int .i64 3)).heap[w.heap.size + 1]? = some (.cells #[.int .i64 3] 2 (0, 0)) := blk_set (blk_set HT.out)
    have h1 : ((w1.setCell ⟨w.heap.size + 1, 0, none⟩ (.int .i64 3)).setCell ⟨w.heap.size + 1, 0, none⟩ (.int .i64 3)).heap[w.heap.size]? = some (.cells #[Value.int .i64 0, .slice none 0 0, .slice none 0 0] 30 (0, 0)) :=
      (Below.heap_setCell _ _ _ _ (by show w.heap.size ≠ w.heap.size + 1; omega)).trans ((Below.heap_setCell _ _ _ _ (by show w.heap.size ≠ w.heap.size + 1; omega)).trans HS.out)
    have h3 := (Below.heap_alloc ((w1.setCell ⟨w.heap.size + 1, 0, none⟩ (.int .i64 3)).setCell ⟨w.heap.size + 1, 0, none⟩ (.int .i64 3)) (.cells #[] 109) _ (lt_of_block h2)).trans h2
    have h4 := (Below.heap_alloc ((w1.setCell ⟨w.heap.size + 1, 0, none⟩ (.int .i64 3)).setCell ⟨w.heap.size + 1, 0, none⟩ (.int .i64 3)) (.cells #[] 109) _ (lt_of_block h1)).trans h1
    have g0 := (cell_of_block h4 0).1
    have g1 := (cell_of_block h4 1).1
    have g2 := (cell_of_block h4 2).1
    have g3 := (cell_of_block h3 0).1
    have hsz : w.heap.size ≤ ((w1.setCell ⟨w.heap.size + 1, 0, none⟩ (.int .i64 3)).setCell ⟨w.heap.size + 1, 0, none⟩ (.int .i64 3)).heap.size := Nat.le_of_lt (lt_of_block h1)
    have HX := Lib.hid (Below.alloc (Below.setCell (Below.setCell HB.out (p := ⟨w.heap.size + 1, 0, none⟩) (Nat.le_succ _) (.int .i64 3)) (p := ⟨w.heap.size + 1, 0, none⟩) (Nat.le_succ _) (.int .i64 3)) hsz (.cells #[] 109))
    clear hsz h1 h2 h3 h4
    simp only [List.getElem?_toArray, List.getElem?_cons_zero, List.getElem?_cons_succ] at g0 g1 g2 g3
    simp [Leaves, settle, results, Try.results55, go_sem, g0, g1, g2, g3]
    exact ⟨HX.out, HF.out⟩
end Go.Proofs.Ytjoiaenkmmmmpaa.Lim2
