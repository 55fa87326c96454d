
/- A list of truth values that is cloned.
   Conditions: stated at each theorem. -/
import Derived.Test.YthebmpdkiocbmaaDoorHeap
import Derived.Test.YthebmpdkiocbmaaDoorRel
namespace Go.Proofs.YthebmpdkiocbmaaDoor.CloneB
set_option linter.unusedVariables false
set_option linter.unusedSimpArgs false
set_option maxRecDepth 20000
open Go.RowKit Mem Copy Rel Heap

theorem not_nilB (b o n cap : Nat) (w : World) : (binOp BinOp.eql 22 (.slice (some ⟨b, o, none⟩) n cap) (.slice none 0 0)).run Tryd.prog w = .ok (.bool false) w := by kernel_rfl
set_option maxHeartbeats 1000000 in
/-- slices.Clone of a list of truth values. -/
theorem cloneB (xs : List Bool) (v : Value) (w : World) (B0 : Nat) (h : Bools w B0 v xs) (hB : B0 ≤ w.heap.size) (h0 : 0 < xs.length) (hl : xs.length ≤ 1000) :
    Calls Tryd.prog 89 #[v] w fun e w' => ∃ a cap, e = .returned (.slice a xs.length cap) ∧ Lst w' w.heap.size 4 (.slice a xs.length cap) (xs.map (Value.bool)) ∧ Below w.heap.size w w' := by
  obtain ⟨a, b, o, cap, rfl, -, ha, hc⟩ := h
  obtain ⟨rfl, hb⟩ := ha h0
  obtain ⟨i, hi, hz, hsize, hbytes⟩ := info_parts info4
  have HC := Lib.hid hc
  obtain ⟨n, hn⟩ : ∃ n, n = xs.length := ⟨_, rfl⟩
  have HNN := Lib.hid hn
  rw [← hn] at h0 hl ⊢
  have HO := Lib.hid (show (w.alloc (.cells #[] 4)).ownsRow w.heap.size 4 1 (.slice (some ⟨w.heap.size, 0, none⟩) 0 0) 0 [] from World.ownsRow_made w #[] 0 (Nat.le_refl _) (by unfold maxLen; omega) rfl)
  have HNW := Lib.hid (show ∀ j u, (xs.map (Value.bool))[j]? = some u → (w.alloc (.cells #[] 4)).cell? ((⟨b, o, none⟩ : Addr).add j) = some u from fun j u hj => by
    have hadd : (⟨b, o, none⟩ : Addr).add j = ⟨b, o + j, none⟩ := by unfold Addr.add; split <;> simp_all
    obtain ⟨hj1, hj2⟩ := List.getElem?_eq_some_iff.1 hj
    have hj3 : j < xs.length := by simpa using hj1
    rw [hadd, World.cell?_of_block (w := w) (Below.heap_alloc _ _ _ (by show b < w.heap.size; omega)), HC.out j (by rw [← HNN.out]; rw [HNN.out]; exact hj3), ← hj2]
    simp [List.getD, hj3])
  have HLN := Lib.hid (show (xs.map (Value.bool)).length = n * 1 by rw [List.length_map, Nat.mul_one, HNN.out])
  have HON := Lib.hid (show ∀ u ∈ xs.map (Value.bool), u.oneCell' = true from fun u hu => by obtain ⟨y, -, rfl⟩ := List.mem_map.1 hu; rfl)
  have hbw : b < w.heap.size := by omega
  have hnil := not_nilB b o n cap w
  clear hc hn
  go_enter Tryd.func89, Tryd.ntmps89
  go_wp2_with (at_builtin; refine wpList_append_own_at (P := Tryd.prog) _ rfl _ _ 22 rfl w.heap.size 4 i (.bool false) 1 1 Tryd.underlying22 hi hz hsize hbytes rfl (by decide) (.slice (some ⟨w.heap.size, 0, none⟩) 0 0) 0 [] rfl HO.out ⟨b, o, none⟩ n cap (xs.map (Value.bool)) rfl HLN.out HNW.out HON.out (by unfold maxLen; omega) (by omega) (by rw [size_alloc']; omega) ?_; intro v5 w5 ho hg _ hat; rw [Nat.zero_add, List.nil_append] at ho; have HLS := Lib.hid (show Lst w5 w.heap.size 4 v5 (xs.map (Value.bool)) from (by unfold Lst; rw [List.length_map, ← HNN.out]; exact ho)); obtain ⟨a5, n5, c5, rfl, HN5⟩ := HLS.out.shape'; have HG5 := Lib.hid hg; clear ho hat hg)
  have h5 : n5 = n := by rw [HN5.out, List.length_map, HNN.out]
  subst h5
  go_ret
  exact ⟨a5, c5, rfl, HLS.out, ((Below.refl _ _).alloc (Nat.le_refl _) _).grown HG5.out (by rw [size_alloc']; omega) (fun q e => by cases e; exact Nat.le_refl _)⟩
end Go.Proofs.YthebmpdkiocbmaaDoor.CloneB
