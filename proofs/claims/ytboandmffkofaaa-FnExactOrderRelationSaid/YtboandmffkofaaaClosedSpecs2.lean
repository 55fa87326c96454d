/- What the model's functions for the known relations hand back: all tuples; numbers that are none.
   Conditions: stated at each theorem. -/
import Derived.Test.YtboandmffkofaaaClosedRels
import Derived.Test.YtboandmffkofaaaClosedImpl
namespace Go.Proofs.Ytboandmffkofaaa.ClosedSpecs2
set_option linter.unusedVariables false
set_option linter.unusedSimpArgs false
set_option maxRecDepth 100000
open Go.RowKit Mem Copy Rel Valid Heap Bld ColMath Columns Numbers ToL TidyAuto TidyRight SpecRight SpecTidyRel ImplRight Automaton Known Sim ResKit Closed ClosedImpl
open SpecTidied ClosedRels

set_option maxHeartbeats 8000000 in
theorem specLenBad (n : Int) (h : n < 1 ∨ 3 < n) (w : World) : Calls Try.prog 27 #[.int .i64 n] w fun e w' => e = .returned (.tuple #[.agg #[.int .i64 0, .int .i64 0, .slice none 0 0, .slice none 0 0], .int .i64 2]) ∧ Below w.heap.size w w' := by
  have HV := Lib.hid (fun W => by
    have h1 := inRange n 1 3 W
    rw [inB_no n 1 3 h] at h1
    exact h1)
  go_enter Try.func27, Try.ntmps27
  go_wp2_with (go_at_call 60; refine (HV.out _).mono ?_; rintro e w' ⟨rfl, rfl⟩)
  exact bodyPost_ret (v := .tuple #[.agg #[.int .i64 0, .int .i64 0, .slice none 0 0, .slice none 0 0], .int .i64 2]) (by simp [results, Try.results27, go_sem]) rfl ⟨rfl, (Below.refl _ _).alloc (Nat.le_refl _) _⟩

set_option maxHeartbeats 8000000 in
theorem specAllBad (n : Int) (h : n < 1 ∨ 3 < n) (w : World) : Calls Try.prog 29 #[.int .i64 n] w fun e w' => e = .returned (.tuple #[.agg #[.int .i64 0, .int .i64 0, .slice none 0 0, .slice none 0 0], .int .i64 2]) ∧ Below w.heap.size w w' := by
  have HV := Lib.hid (fun W => by
    have h1 := inRange n 1 3 W
    rw [inB_no n 1 3 h] at h1
    exact h1)
  go_enter Try.func29, Try.ntmps29
  go_wp2_with (go_at_call 60; refine (HV.out _).mono ?_; rintro e w' ⟨rfl, rfl⟩)
  exact bodyPost_ret (v := .tuple #[.agg #[.int .i64 0, .int .i64 0, .slice none 0 0, .slice none 0 0], .int .i64 2]) (by simp [results, Try.results29, go_sem]) rfl ⟨rfl, (Below.refl _ _).alloc (Nat.le_refl _) _⟩

theorem rAll_eq (k : Nat) : rAll k = ⟨k, 0, [true], [(List.range (wide k)).map fun _ => 0]⟩ := rfl
set_option maxHeartbeats 8000000 in
theorem specAll (k : Nat) (h1 : 1 ≤ k) (h3 : k ≤ 3) (w : World) : Calls Try.prog 29 #[.int .i64 k] w fun e w' => ∃ va vn, e = .returned (.tuple #[.agg #[.int .i64 k, .int .i64 0, va, vn], .int .i64 0]) ∧ Built w' w.heap.size va vn (tidyAcc (lAll k)) (tidyNext (lAll k)) ∧ Below w.heap.size w w' := by
  have HV := Lib.hid (fun W => by
    have e1 := inRange (k : Int) 1 3 W
    have e2 : inB (k : Int) 1 3 = true := by unfold inB; rw [decide_eq_true_iff]; omega
    rw [e2] at e1
    exact e1)
  have hcnt := wideAny (k : Int) (by omega) (by omega)
  have hwk : widthOf (k : Int) = ((wide k : Nat) : Int) := by
    have : k = 1 ∨ k = 2 ∨ k = 3 := by omega
    rcases this with rfl | rfl | rfl <;> rfl
  rw [hwk] at hcnt
  have hw26 : wide k ≤ 26 := by have := wide_cases h1 h3; omega
  have HRE := Lib.hid (show relOf (lAll k) = ⟨k, 0, [true], [(List.range (wide k)).map fun _ => 0]⟩ from (rAll_rel k h1 h3).trans (rAll_eq k))
  have HTD := Lib.hid (fun bp W h hbp => by
    have := SpecTidied.tidied (lAll k) (iAll_ok k h1 h3) bp W W.heap.size h (Nat.le_refl _) hbp (by show 1 ≤ 100000; omega)
    rw [show (lAll k).k = k from rfl] at this
    exact this)
  have HC := Lib.hid hcnt
  obtain ⟨m, hm⟩ : ∃ m, m = wide k := ⟨_, rfl⟩
  rw [← hm] at HC hw26 HRE
  clear hcnt hwk hm h1 h3
  have HL0 := Lib.hid (show Lst ((w.alloc (.cells #[Value.int .i64 0, .int .i64 0, .slice none 0 0, .slice none 0 0] 27)).alloc (.cells #[] 2)) (w.heap.size + 1) 2 (.slice (some ⟨w.heap.size + 1, 0, none⟩) 0 0) (tv 0 fun _ => 0) from by
    have := Lst.empty (w.alloc (.cells #[Value.int .i64 0, .int .i64 0, .slice none 0 0, .slice none 0 0] 27)) (w.heap.size + 1) 2 (by simp)
    rwa [size_alloc'] at this)
  have HK0 := Lib.hid (show Kp w ((w.alloc (.cells #[Value.int .i64 0, .int .i64 0, .slice none 0 0, .slice none 0 0] 27)).alloc (.cells #[] 2)) from (Below.refl _ _).alloc (by simp) _)
  go_enter Try.func29, Try.ntmps29
  go_wp2_with (go_at_call 60; refine (HV.out _).mono ?_; rintro e w' ⟨rfl, rfl⟩)
  go_loopw [4, 5] (fun s4 s5 wr => ∃ (c : Nat) (a : Option Addr) (cp : Nat), c ≤ m ∧ s5 = .int .i64 c ∧ s4 = .slice a c cp ∧ Lst wr (w.heap.size + 1) 2 (.slice a c cp) (tv c fun _ => 0) ∧ Kp w wr) (fun _ s5 _ => m - (intOf s5).toNat)
  case atStart => exact ⟨0, _, _, Nat.zero_le _, rfl, rfl, HL0.out, HK0.out⟩
  case round =>
    obtain ⟨c, a, cp, hc, rfl, rfl, hl, hk⟩ := hrel
    have HL := Lib.hid hl
    have HK := Lib.hid hk
    have HS := Lib.hid (Kp.size hk)
    clear hl hk HL0 HK0
    by_cases hlc : c < m
    · go_wp2_with (first
        | (go_at_call 62; refine (HC.out _).mono ?_; rintro e w' ⟨rfl, rfl⟩)
        | (at_builtin; refine wpList_push rfl _ _ 61 rfl 2 (.int .i64 0) 8 Try.underlying61 info2 (by decide) (by decide) (w.heap.size + 1) (.slice a c cp) _ (.int .i64 0) HL.out HS.out rfl (by rw [tv_length]; omega) rfl _ rfl rfl ?_; intro v5 w5 hp5; obtain ⟨a5, n5, cp5, rfl, HN5⟩ := hp5.lst.shape'; have HL5 := Lib.hid hp5.lst; have HK5 := Lib.hid (Below.grown HK.out hp5.grow HS.out (fun q hq => HL.out.ge hq)); clear hp5))
      go_roundw
      case rel =>
        have h5 : n5 = c + 1 := by rw [HN5.out, List.length_append, tv_length]; rfl
        subst h5
        have h1 := HL5.out
        rw [tv_snoc c (fun _ => 0)] at h1
        exact ⟨c + 1, _, _, hlc, by go_num, rfl, h1, HK5.out⟩
      case measure => simp [intOf]; omega
    · obtain rfl : c = m := by omega
      obtain ⟨X, hX⟩ : ∃ X, X = wr.heap.size := ⟨_, rfl⟩
      obtain ⟨W2, hW2⟩ : ∃ W2, W2 = (wr.alloc (.cells #[.bool true] 4)).alloc (.cells #[.slice a c cp] 61) := ⟨_, rfl⟩
      have hbW : Below wr.heap.size wr W2 := by rw [hW2]; exact base_box (base_box (Below.refl _ _) _) _
      have HBU : Built W2 (w.heap.size + 1) (.slice (some ⟨X, 0, none⟩) 1 1) (.slice (some ⟨X + 1, 0, none⟩) 1 1) [true] [(List.range c).map fun _ => 0] := by
        refine ⟨?_, [(.slice a c cp, tv c fun _ => 0)], Own.add (Own.nil _ _ _) (HL.out.below hbW) (fun p hp => by cases hp), ?_, ?_⟩
        · rw [hW2, hX]
          exact (Lst.one wr (w.heap.size + 1) 4 (.bool true) HS.out).below ((Below.refl _ _).alloc (Nat.le_refl _) _)
        · rw [hW2, hX]
          have := Lst.one (wr.alloc (.cells #[.bool true] 4)) (w.heap.size + 1) 61 (.slice a c cp) (by rw [size_alloc']; have := HS.out; omega)
          rw [size_alloc'] at this
          exact this
        · show [tv c _] = [List.map _ (List.map _ _)]
          unfold tv; rw [List.map_map]; rfl
      obtain ⟨va', vn', ev, hva, hvn⟩ := HBU.reads W2.heap.size (Nat.le_refl _) k 0
      simp at ev
      obtain ⟨rfl, rfl⟩ := ev
      have hp := RelPtr.boxed (r := ⟨k, 0, [true], [(List.range c).map fun _ => 0]⟩) hva hvn (Nat.le_refl _) 27
      have hsz2 : W2.heap.size = X + 1 + 1 := by rw [hW2, hX, size_alloc', size_alloc']
      rw [hsz2] at hp
      obtain ⟨W3, hW3⟩ : ∃ W3, W3 = W2.alloc (.cells #[.int .i64 k, .int .i64 0, .slice (some ⟨X, 0, none⟩) 1 1, .slice (some ⟨X + 1, 0, none⟩) 1 1] 27) := ⟨_, rfl⟩
      have hsz3 : W3.heap.size = X + 1 + 1 + 1 := by rw [hW3, size_alloc', hsz2]
      have hp3 : RelPtr W3 (X + 1 + 1) (X + 1 + 1) ⟨k, 0, [true], [(List.range c).map fun _ => 0]⟩ := by rw [hW3]; exact hp
      have HT := Lib.hid (HTD.out (X + 1 + 1) W3 (by
        rw [HRE.out]
        exact RelPtr.mono hp3 (by omega)) (by omega))
      have HK2 := Lib.hid (show Kp w W3 from by rw [hW3]; exact Below.alloc (Below.trans HK.out (hbW.mono HS.out)) (by rw [hsz2, hX]; have := HS.out; omega) _)
      have HHX := Lib.hid hX
      clear hX hbW HBU hva hvn hp hp3 hsz2 hsz3
      go_wp2_with (go_at_call 62; refine (HC.out _).mono ?_; rintro e w' ⟨rfl, rfl⟩)
      rw [← HHX.out, ← hW2, ← hW3]
      clear hW2 hW3
      refine HT.out.mono ?_
      rintro e w7 ⟨ra, rn, rfl, hbu, hb⟩
      have HK7 := Lib.hid (show Kp w w7 from Below.trans HK2.out (hb.mono (Kp.size HK2.out)))
      have HR7 := Lib.hid (show Res0 w w.heap.size w7 from ⟨Kp.base HK7.out, Kp.res HK7.out, Nat.le_refl _⟩)
      have HB7 := Lib.hid (show Built w7 (w.heap.size + 1) ra rn (tidyAcc (lAll k)) (tidyNext (lAll k)) from hbu.mono (Kp.size HK2.out))
      clear hbu hb HT HK7
      have hres := HR7.out.res
      obtain ⟨a7, n7, c7, rfl, -⟩ := HB7.out.acc.shape'
      obtain ⟨items7, -, hnx7, -⟩ := HB7.out.rows
      obtain ⟨b7, m7, d7, rfl, -⟩ := hnx7.shape'
      have r0 := cells_get hres 0
      have r1 := cells_get hres 1
      have r2 := cells_get hres 2
      have r3 := cells_get hres 3
      have f0 := cells_free hres 0
      have f1 := cells_free hres 1
      have f2 := cells_free hres 2
      have f3 := cells_free hres 3
      have hlS := HR7.out.lt
      have p0 := cells_set hres 0 (.int .i64 k)
      have p1 := cells_set p0 1 (.int .i64 0)
      have p2 := cells_set p1 2 (.slice a7 n7 c7)
      have p3 := cells_set p2 3 (.slice b7 m7 d7)
      simp at r0 r1 r2 r3 p3
      have g0 := cells_get p3 0
      have g1 := cells_get p3 1
      have g2 := cells_get p3 2
      have g3 := cells_get p3 3
      simp at g0 g1 g2 g3
      have HG := Lib.hid (And.intro g0 (And.intro g1 (And.intro g2 g3)))
      clear p0 p1 p2 p3 g0 g1 g2 g3 hres hnx7
      go_wp2_with fail
      obtain ⟨g0, g1, g2, g3⟩ := HG.out
      refine bodyPost_ret (v := .tuple #[.agg #[.int .i64 k, .int .i64 0, .slice a7 n7 c7, .slice b7 m7 d7], .int .i64 0]) (by simp [results, Try.results29, go_sem, g0, g1, g2, g3]) rfl ⟨.slice a7 n7 c7, .slice b7 m7 d7, rfl, ?_, ?_⟩
      · exact (((((HB7.out.setLow (a := ⟨w.heap.size, 0, none⟩) (Nat.lt_succ_self _) _).setLow (a := ⟨w.heap.size, 1, none⟩) (Nat.lt_succ_self _) _).setLow (a := ⟨w.heap.size, 2, none⟩) (Nat.lt_succ_self _) _).setLow (a := ⟨w.heap.size, 3, none⟩) (Nat.lt_succ_self _) _).mono (Nat.le_succ_of_le HR7.out.hR))
      · exact ((((HR7.out.base.setCell (p := ⟨w.heap.size, 0, none⟩) HR7.out.hR _).setCell (p := ⟨w.heap.size, 1, none⟩) HR7.out.hR _).setCell (p := ⟨w.heap.size, 2, none⟩) HR7.out.hR _).setCell (p := ⟨w.heap.size, 3, none⟩) HR7.out.hR _)

end Go.Proofs.Ytboandmffkofaaa.ClosedSpecs2
