
/- The program's function that adds edges from accepting states to a machine that grows.
   Conditions: stated at each theorem. -/
import Derived.Test.YtjoiaenkmmmmpaaGrowE
import Derived.Test.YtjoiaenkmmmmpaaRepSpec
namespace Go.Proofs.Ytjoiaenkmmmmpaa.GrowN
set_option linter.unusedVariables false
set_option linter.unusedSimpArgs false
set_option maxRecDepth 100000
open Go.RowKit Mem Copy Rel Heap MarkRow Edg EdgCopy EdgEq TrHeap TrLawKit TrValid TrImplValid TurnImpl TurnSpec TrReach TrReached TrimKit AddSpec Grow GrowS RepSpec

/-- One edge that has just been laid in a block of its own. -/
theorem edges_one (w : World) (x : E) (hx : x.Fits) : Edges (w.alloc (boxE x)) (w.alloc (boxE x)).heap.size (.slice (some ⟨w.heap.size, 0, none⟩) 1 1) [x] := by
  have hbx := heap_alloc_new w (boxE x)
  refine ⟨_, w.heap.size, 0, 1, rfl, (show 1 ≤ maxLen by unfold maxLen; decide), fun _ => ⟨rfl, by rw [size_alloc']; omega⟩, fun i hi => ?_⟩
  obtain rfl : i = 0 := by simp at hi; omega
  exact ⟨⟨(cell_of_block hbx 0).1, (cell_of_block hbx 1).1, (cell_of_block hbx 2).1, (cell_of_block hbx 3).1⟩, hx⟩
theorem shift_zero (x : E) : [x].map (shiftE 0) = [x] := by
  show [(⟨x.src + ((0 : Nat) : Int), x.dst + ((0 : Nat) : Int), x.inn, x.out⟩ : E)] = [x]
  have h1 : x.src + ((0 : Nat) : Int) = x.src := Int.add_zero _
  have h2 : x.dst + ((0 : Nat) : Int) = x.dst := Int.add_zero _
  rw [h1, h2]
theorem endsTo_mono (a b : Nat) (acc : List Bool) {k n : Nat} (h : k ≤ n) : (endsTo a b acc k).length ≤ (endsTo a b acc n).length := by
  induction n with
  | zero => obtain rfl : k = 0 := by omega
            exact Nat.le_refl _
  | succ n ih =>
    by_cases e : k = n + 1
    · rw [e]; exact Nat.le_refl _
    · have h1 := ih (by omega)
      cases hv : acc.getD n false with
      | true => rw [endsTo_yes a b hv, List.length_append]; omega
      | false => rw [endsTo_no a b hv]; exact h1

set_option maxHeartbeats 8000000 in
theorem addEnds (st : Int) (ta : List Bool) (tv vn : Value) (a tt : Nat) (Z C B : Nat) (s : Int) (ua un : Value) (A : List Bool) (es : List E) (w : World) (hacc : Bools w B tv ta) (hBC : B ≤ C) (hb : BldG w C Z s ua un A es) (hes : es.length ≤ 200) (hn : ta.length ≤ 500) (ha : a ≤ 400) (ht : tt ≤ 999) :
    Calls Try.prog 83 #[.pointer (some ⟨Z, 0, none⟩), .int .i64 (a : Nat), .agg #[.int .i64 st, tv, vn], .int .i64 (tt : Nat)] w fun e w' => Below C w w' ∧
      ((es.length + (endsTo a tt ta ta.length).length ≤ 200 ∧ e = .returned (.tuple #[]) ∧ ∃ un', BldG w' C Z s ua un' A (es ++ endsTo a tt ta ta.length)) ∨
        (200 < es.length + (endsTo a tt ta ta.length).length ∧ e = .panicked [{ v := .iface 109 (.agg #[]), recovered := false }])) := by
  have hCw : C ≤ w.heap.size := by have := hb.lt; have := hb.obB; omega
  obtain ⟨aa, ba, oa, ca, rfl, -, haa, hca⟩ := hacc
  obtain ⟨n, hnn⟩ : ∃ n, n = ta.length := ⟨_, rfl⟩
  rw [← hnn] at hn haa hca ⊢
  have HA := Lib.hid (fun W (hb : Below C w W) (i : Nat) (hi : i < n) => (show W.cell? ⟨ba, oa + i, none⟩ = some (.bool (ta.getD i false)) from (hb.cell (p := ⟨ba, oa + i, none⟩) (by show ba < _; have := (haa (by omega)).2; omega)).trans (hca i hi)))
  have HAA := Lib.hid haa
  have HB0 := Lib.hid (hb.alloc (.cells #[.int .i64 st, .slice aa n ca, vn] 30))
  have HK0 := Lib.hid ((Below.refl C w).alloc hCw (.cells #[.int .i64 st, .slice aa n ca, vn] 30))
  clear haa hca hb hnn
  go_enter Try.func83, Try.ntmps83
  go_wp2_with fail
  go_loopw [8, 9, 13] (fun _ _ v13 wr => ∃ (k : Nat) (un' : Value), k ≤ n ∧ v13 = .int .i64 k ∧ es.length + (endsTo a tt ta k).length ≤ 200 ∧ BldG wr C Z s ua un' A (es ++ endsTo a tt ta k) ∧ Below C w wr) (fun _ _ v13 _ => n - (intOf v13).toNat)
  case atStart => exact ⟨0, _, Nat.zero_le _, rfl, hes, by have := HB0.out; rw [show endsTo a tt ta 0 = [] from rfl, List.append_nil]; exact this, HK0.out⟩
  case round =>
    obtain ⟨k, un', hk, rfl, hle, hT, hbel⟩ := hrel
    have HLE := Lib.hid hle
    have HT := Lib.hid hT
    have HB := Lib.hid hbel
    clear HB0 HK0 hle
    by_cases hlt : k < n
    · obtain ⟨rfl, hbaB⟩ := HAA.out (by omega)
      have e1 := HA.out _ hbel k hlt
      have l1 : ba < wr.heap.size := by have := hT.lt; have := hT.obB; omega
      have hCr : C ≤ wr.heap.size := by have := hT.lt; have := hT.obB; omega
      obtain ⟨b, hbv⟩ : ∃ b, b = ta.getD k false := ⟨_, rfl⟩
      rw [← hbv] at e1
      have HBV := Lib.hid hbv
      have hwr1 : IntKind.i64.wrap ((a : Int) + (k : Int)) = (a : Int) + k := by rw [IntKind.wrap_i64]; omega
      clear hbv hbel
      cases b with
      | true =>
        have HEE := Lib.hid (show endsTo a tt ta (k + 1) = endsTo a tt ta k ++ [⟨(a : Int) + (k : Int), (tt : Nat), ⟨#[]⟩, ⟨#[]⟩⟩] by rw [endsTo_yes a tt HBV.out.symm, Int.add_comm (a : Int) (k : Int)])
        have HED := Lib.hid (edges_one wr ⟨(a : Int) + (k : Int), (tt : Nat), ⟨#[]⟩, ⟨#[]⟩⟩ ⟨Nat.zero_le _, Nat.zero_le _⟩)
        have HT1 := Lib.hid (hT.alloc (boxE ⟨(a : Int) + (k : Int), (tt : Nat), ⟨#[]⟩, ⟨#[]⟩⟩))
        have HB1 := Lib.hid (Below.alloc HB.out hCr (boxE ⟨(a : Int) + (k : Int), (tt : Nat), ⟨#[]⟩, ⟨#[]⟩⟩))
        have HNE := Lib.hid (show 0 < [(⟨(a : Int) + (k : Int), (tt : Nat), ⟨#[]⟩, ⟨#[]⟩⟩ : E)].length → ∀ b o l c, Value.slice (some ⟨wr.heap.size, 0, none⟩) 1 1 = .slice (some ⟨b, o, none⟩) l c → b ≠ Z ∧ un'.ownBlock ≠ some b from fun _ b o l c e => by
          injection e with e1 _ _
          injection e1 with e2
          injection e2 with e3
          exact ⟨by have := hT.lt; omega, fun e => by have := hT.edg.lt e; omega⟩)
        clear hT
        go_wp2_with fail
        refine (GrowE.addEdges [⟨(a : Int) + (k : Int), (tt : Nat), ⟨#[]⟩, ⟨#[]⟩⟩] _ 0 Z C 1000 s _ _ _ _ _ HED.out HT1.out (fun i hi => by
          obtain rfl : i = 0 := by simp at hi; omega
          exact ⟨by show (0 : Int) ≤ (a : Int) + (k : Int); omega, by show (a : Int) + (k : Int) < _; omega, by show (0 : Int) ≤ (tt : Int); omega, by show (tt : Int) < _; omega⟩) (by omega) (by simp) (by rw [List.length_append]; have := HLE.out; omega) (by omega) HNE.out).mono ?_
        rintro e w6 ⟨hb6, ⟨h1, rfl, vx, hT6⟩ | ⟨h1, rfl⟩⟩
        · have HT6 := Lib.hid (show BldG w6 C Z s ua vx A (es ++ endsTo a tt ta (k + 1)) by rw [HEE.out, ← List.append_assoc]; rwa [shift_zero] at hT6)
          have HB6 := Lib.hid (Below.trans HB1.out hb6)
          have HL6 := Lib.hid (show es.length + (endsTo a tt ta (k + 1)).length ≤ 200 by rw [HEE.out, List.length_append]; rw [List.length_append] at h1; simp at h1 ⊢; omega)
          clear hb6 h1 hT6
          go_wp2_with fail
          go_roundw
          case rel => exact ⟨k + 1, _, by omega, by go_num, HL6.out, HT6.out, HB6.out⟩
          case measure => simp [intOf]; omega
        · have HB6 := Lib.hid (Below.trans HB1.out hb6)
          have HL6 := Lib.hid (show 200 < es.length + (endsTo a tt ta n).length by
            have h2 := endsTo_mono a tt ta (show k + 1 ≤ n by omega)
            rw [HEE.out, List.length_append] at h2
            rw [List.length_append] at h1
            simp at h1 h2
            omega)
          clear hb6 h1
          go_wp2_with fail
          exact ⟨rfl, HB6.out, .inr ⟨HL6.out, rfl⟩⟩
      | false =>
        have HEE := Lib.hid (show endsTo a tt ta (k + 1) = endsTo a tt ta k from endsTo_no a tt HBV.out.symm)
        clear hT
        go_wp2
        go_roundw
        case rel => exact ⟨k + 1, _, by omega, by go_num, by rw [HEE.out]; exact HLE.out, by rw [HEE.out]; exact HT.out, HB.out⟩
        case measure => simp [intOf]; omega
    · obtain rfl : n = k := by omega
      clear hT hbel
      go_wp2
      go_end0
      exact ⟨HB.out, .inl ⟨HLE.out, rfl, _, HT.out⟩⟩
end Go.Proofs.Ytjoiaenkmmmmpaa.GrowN
