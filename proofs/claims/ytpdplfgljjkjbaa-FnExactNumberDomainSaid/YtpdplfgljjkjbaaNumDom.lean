
/- What the functions for the relation of the words of numbers hand back, the program's and the model's.
   Conditions: none. -/
import Derived.Test.YtpdplfgljjkjbaaKnownI
import Derived.Test.YtpdplfgljjkjbaaAutomaton
import Derived.Test.YtpdplfgljjkjbaaSpecTidied
namespace Go.Proofs.Ytpdplfgljjkjbaa.NumDom
set_option linter.unusedVariables false
set_option linter.unusedSimpArgs false
set_option maxRecDepth 100000
open Go.RowKit Mem Copy Rel Valid Heap Bld ColMath Columns Numbers ToL TidyAuto TidyRight SpecRight SpecTidyRel ImplRight Automaton Sim ResKit ClosedImpl

/-- The block of a result, not yet written. -/
structure Res0 (w : World) (Rb : Nat) (W : World) : Prop where
  base : Below w.heap.size w W
  res : W.heap[Rb]? = some (.cells #[Value.int .i64 0, .int .i64 0, .slice none 0 0, .slice none 0 0] 27 (0, 0))
  hR : w.heap.size ≤ Rb
theorem Res0.lt {w W : World} {Rb : Nat} (h : Res0 w Rb W) : Rb < W.heap.size := lt_of_block h.res
theorem Res0.step {w W W' : World} {Rb : Nat} (h : Res0 w Rb W) (hb : Below W.heap.size W W') : Res0 w Rb W' :=
  ⟨base_step h.base hb, by rw [hb.block Rb h.lt]; exact h.res, h.hR⟩
theorem Res0.new {w W : World} (h : Below w.heap.size w W) : Res0 w W.heap.size (W.alloc (.cells #[Value.int .i64 0, .int .i64 0, .slice none 0 0, .slice none 0 0] 27)) :=
  ⟨base_box h _, heap_alloc_new _ _, h.size⟩
theorem Res0.alloc {w W : World} {Rb : Nat} (h : Res0 w Rb W) (o : Obj) : Res0 w Rb (W.alloc o) := h.step ((Below.refl _ _).alloc (Nat.le_refl _) _)

def tab (T : List (List Nat)) (s c : Nat) : Int := (((T.getD s []).getD c 0 : Nat) : Int)
def tNum : List (List Nat) := [[1, 0], [1, 0]]
def iNum : L := ⟨1, 0, [true, false], tNum⟩
def rNum : R := ⟨1, 0, [true, false], autN 1 2 (tab tNum)⟩
theorem iNum_ok : iNum.Ok := ⟨by decide, by decide, by decide, by decide, by decide +kernel, by decide +kernel⟩
theorem iNum_rel : relOf iNum = ⟨1, 0, [true, false], [[1, 0], [1, 0]]⟩ := by kernel_rfl
theorem rNum_ok : okB rNum = true := by decide +kernel
theorem rNum_L : toL rNum = iNum := by kernel_rfl
theorem tidyNum : tidyA rNum = tidyAcc iNum ∧ tidyN rNum = tidyNext iNum ∧ tidyK rNum = 1 ∧ tidyC rNum = 0 := by
  have h := small (r := rNum) rNum_ok (by decide)
  rw [rNum_L] at h
  exact h
theorem lenNum : (tidyAcc iNum).length ≤ 150 := by
  have := tidyAcc_len iNum_ok
  have h : iNum.acc.length = 2 := rfl
  omega

/-- The rule, letter by letter. -/
theorem numRule (s c : Nat) (hs : s < 2) (hc : c < 2) (W : World) : Calls Try.prog 60 #[.int .i64 s, lettersV 1 c] W fun e w' => e = .returned (.int .i64 (tab tNum s c)) ∧ Below W.heap.size W w' := by
  have h1 : s = 0 ∨ s = 1 := by omega
  have h2 : c = 0 ∨ c = 1 := by omega
  rcases h1 with rfl | rfl <;> rcases h2 with rfl | rfl
  all_goals
    simp only [lettersV, letT, letA, pow3, tab, tNum]
    go_enter Try.func60, Try.ntmps60
    go_wp2
    go_ret
    exact ⟨rfl, (Below.refl _ _).alloc (Nat.le_refl _) _⟩

set_option maxHeartbeats 8000000 in
theorem implNum (w : World) : Calls Try.prog 31 #[] w fun e w' => ∃ va vn, e = .returned (.agg #[.int .i64 1, .int .i64 0, va, vn]) ∧ Built w' w.heap.size va vn (tidyAcc iNum) (tidyNext iNum) ∧ Below w.heap.size w w' := by
  obtain ⟨W1, hW1⟩ : ∃ W1, W1 = (w.alloc (.cells #[Value.int .i64 0, .int .i64 0, .slice none 0 0, .slice none 0 0] 27)).alloc (.cells #[.bool true, .bool false] 4) := ⟨_, rfl⟩
  have HR := Lib.hid (show Res0 w w.heap.size W1 by rw [hW1]; exact (Res0.new (Below.refl _ _)).alloc _)
  have HL := Lib.hid (show Lst W1 (w.heap.size + 1) 4 (.slice (some ⟨w.heap.size + 1, 0, none⟩) 2 2) ([true, false].map Value.bool) by
    rw [hW1]
    have := Lst.lit (w.alloc (.cells #[Value.int .i64 0, .int .i64 0, .slice none 0 0, .slice none 0 0] 27)) (w.heap.size + 1) 4 #[.bool true, .bool false] (by simp) (by decide)
    rw [size_alloc'] at this
    exact this)
  have HAU := Lib.hid (automaton 1 (by omega) (by omega) (.slice (some ⟨w.heap.size + 1, 0, none⟩) 2 2) [true, false] W1 W1.heap.size (lst_bools HL.out _ (Nat.le_refl _)) (Nat.le_refl _) (by decide) 60 (fun _ _ => rfl) #[] (tab tNum) (fun W hb s c hs hc => numRule s c hs hc W))
  go_enter Try.func31, Try.ntmps31
  go_wp2_with fail
  rw [← hW1]
  clear hW1
  refine HAU.out.mono ?_
  rintro e w2 ⟨vn, rfl, hbu, hb⟩
  have HR2 := Lib.hid (HR.out.step hb)
  have HB2 := Lib.hid (show Built w2 (w.heap.size + 1) (.slice (some ⟨w.heap.size + 1, 0, none⟩) 2 2) vn [true, false] (autN 1 2 (tab tNum)) from built_with (hbu.mono HR.out.lt) (HL.out.below hb))
  have HKN := Lib.hid (knownI (.agg #[.int .i64 1, .int .i64 0, .slice (some ⟨w.heap.size + 1, 0, none⟩) 2 2, vn]) rNum rNum_ok w2 w2.heap.size (HB2.out.reads _ (Nat.le_refl _) 1 0) (Nat.le_refl _))
  rw [tidyNum.1, tidyNum.2.1, tidyNum.2.2.1] at HKN
  obtain ⟨items2, -, hnx2, -⟩ := hbu.rows
  obtain ⟨a2, n2, c2, rfl, -⟩ := hnx2.shape'
  clear hbu hb HAU hnx2
  go_wp2_with fail
  refine HKN.out.mono ?_
  rintro e w3 ⟨va3, vn3, rfl, hbu, hb⟩
  have HR3 := Lib.hid (HR2.out.step hb)
  have HB3 := Lib.hid (show Built w3 (w.heap.size + 1) va3 vn3 (tidyAcc iNum) (tidyNext iNum) from hbu.mono HR2.out.lt)
  clear hbu hb HKN
  have hres := HR3.out.res
  obtain ⟨a7, n7, c7, rfl, -⟩ := HB3.out.acc.shape'
  obtain ⟨items7, -, hnx7, -⟩ := HB3.out.rows
  obtain ⟨b7, m7, d7, rfl, -⟩ := hnx7.shape'
  have r0 := cells_get hres 0
  have r1 := cells_get hres 1
  have r2 := cells_get hres 2
  have r3 := cells_get hres 3
  have f0 := cells_free hres 0
  have f1 := cells_free hres 1
  have f2 := cells_free hres 2
  have f3 := cells_free hres 3
  have hlS := HR3.out.lt
  have p0 := cells_set hres 0 (.int .i64 1)
  have p1 := cells_set p0 1 (.int .i64 0)
  have p2 := cells_set p1 2 (.slice a7 n7 c7)
  have p3 := cells_set p2 3 (.slice b7 m7 d7)
  simp at r0 r1 r2 r3 p3
  have g0 := cells_get p3 0
  have g1 := cells_get p3 1
  have g2 := cells_get p3 2
  have g3 := cells_get p3 3
  simp at g0 g1 g2 g3
  have HG := Lib.hid (And.intro g0 (And.intro g1 (And.intro g2 g3)))
  clear p0 p1 p2 p3 g0 g1 g2 g3 hres hnx7
  go_wp2_with fail
  obtain ⟨g0, g1, g2, g3⟩ := HG.out
  refine bodyPost_ret (v := .agg #[.int .i64 1, .int .i64 0, .slice a7 n7 c7, .slice b7 m7 d7]) (by simp [results, Try.results31, go_sem, g0, g1, g2, g3]) rfl ⟨.slice a7 n7 c7, .slice b7 m7 d7, rfl, ?_, ?_⟩
  · exact (((((HB3.out.setLow (a := ⟨w.heap.size, 0, none⟩) (Nat.lt_succ_self _) _).setLow (a := ⟨w.heap.size, 1, none⟩) (Nat.lt_succ_self _) _).setLow (a := ⟨w.heap.size, 2, none⟩) (Nat.lt_succ_self _) _).setLow (a := ⟨w.heap.size, 3, none⟩) (Nat.lt_succ_self _) _).mono (Nat.le_succ_of_le HR3.out.hR))
  · exact ((((HR3.out.base.setCell (p := ⟨w.heap.size, 0, none⟩) HR3.out.hR _).setCell (p := ⟨w.heap.size, 1, none⟩) HR3.out.hR _).setCell (p := ⟨w.heap.size, 2, none⟩) HR3.out.hR _).setCell (p := ⟨w.heap.size, 3, none⟩) HR3.out.hR _)

set_option maxHeartbeats 8000000 in
theorem specDomain (w : World) : Calls Try.prog 59 #[] w fun e w' => ∃ va vn, e = .returned (.agg #[.int .i64 1, .int .i64 0, va, vn]) ∧ Built w' w.heap.size va vn (tidyAcc iNum) (tidyNext iNum) ∧ Below w.heap.size w w' := by
  obtain ⟨A0, hA0⟩ : ∃ A0, A0 = (w.alloc (.cells #[Value.int .i64 0, .int .i64 0, .slice none 0 0, .slice none 0 0] 27)).alloc (.cells #[.bool true, .bool false] 4) := ⟨_, rfl⟩
  obtain ⟨A1, hA1⟩ : ∃ A1, A1 = A0.alloc (.cells #[.int .i64 1, .int .i64 0] 2) := ⟨_, rfl⟩
  obtain ⟨A2, hA2⟩ : ∃ A2, A2 = A1.alloc (.cells #[.int .i64 1, .int .i64 0] 2) := ⟨_, rfl⟩
  obtain ⟨W2, hW2⟩ : ∃ W2, W2 = A2.alloc (.cells #[.slice (some ⟨w.heap.size + 1 + 1, 0, none⟩) 2 2, .slice (some ⟨w.heap.size + 1 + 1 + 1, 0, none⟩) 2 2] 49) := ⟨_, rfl⟩
  have s0 : A0.heap.size = w.heap.size + 1 + 1 := by rw [hA0, size_alloc', size_alloc']
  have s1 : A1.heap.size = w.heap.size + 1 + 1 + 1 := by rw [hA1, size_alloc', s0]
  have s2 : A2.heap.size = w.heap.size + 1 + 1 + 1 + 1 := by rw [hA2, size_alloc', s1]
  have s3 : W2.heap.size = w.heap.size + 1 + 1 + 1 + 1 + 1 := by rw [hW2, size_alloc', s2]
  have b1 : Below A0.heap.size A0 A1 := by rw [hA1]; exact (Below.refl _ _).alloc (Nat.le_refl _) _
  have b2 : Below A1.heap.size A1 A2 := by rw [hA2]; exact (Below.refl _ _).alloc (Nat.le_refl _) _
  have b3 : Below A2.heap.size A2 W2 := by rw [hW2]; exact (Below.refl _ _).alloc (Nat.le_refl _) _
  have HR := Lib.hid (show Res0 w w.heap.size W2 from (((Res0.new (w := w) (Below.refl _ _)).alloc (.cells #[.bool true, .bool false] 4)).step (W' := A1) (by rw [← hA0]; exact b1)).step b2 |>.step b3)
  have hl : Lst A0 (w.heap.size + 1) 4 (.slice (some ⟨w.heap.size + 1, 0, none⟩) 2 2) ([true, false].map Value.bool) := by
    have := Lst.lit (w.alloc (.cells #[Value.int .i64 0, .int .i64 0, .slice none 0 0, .slice none 0 0] 27)) (w.heap.size + 1) 4 #[.bool true, .bool false] (by simp) (by decide)
    rw [size_alloc', ← hA0] at this
    exact this
  have r1 : Lst A1 (w.heap.size + 1) 2 (.slice (some ⟨w.heap.size + 1 + 1, 0, none⟩) 2 2) ([(1 : Int), 0].map (Value.int .i64)) := by
    have := Lst.lit A0 (w.heap.size + 1) 2 #[.int .i64 1, .int .i64 0] (by omega) (by decide)
    rw [s0, ← hA1] at this
    exact this
  have r2 : Lst A2 (w.heap.size + 1) 2 (.slice (some ⟨w.heap.size + 1 + 1 + 1, 0, none⟩) 2 2) ([(1 : Int), 0].map (Value.int .i64)) := by
    have := Lst.lit A1 (w.heap.size + 1) 2 #[.int .i64 1, .int .i64 0] (by omega) (by decide)
    rw [s1, ← hA2] at this
    exact this
  have r3 : Lst W2 (w.heap.size + 1) 49 (.slice (some ⟨w.heap.size + 1 + 1 + 1 + 1, 0, none⟩) 2 2) [.slice (some ⟨w.heap.size + 1 + 1, 0, none⟩) 2 2, .slice (some ⟨w.heap.size + 1 + 1 + 1, 0, none⟩) 2 2] := by
    have := Lst.lit A2 (w.heap.size + 1) 49 #[.slice (some ⟨w.heap.size + 1 + 1, 0, none⟩) 2 2, .slice (some ⟨w.heap.size + 1 + 1 + 1, 0, none⟩) 2 2] (by omega) (by simp)
    rw [s2, ← hW2] at this
    exact this
  have o1 : Own A1 (w.heap.size + 1) 2 [(.slice (some ⟨w.heap.size + 1 + 1, 0, none⟩) 2 2, [(1 : Int), 0].map (Value.int .i64))] := Own.addNew (Own.nil A0 _ _) b1 r1 (fun k hk => by cases hk; first | exact Nat.le_of_eq s0 | exact Nat.le_of_eq s1)
  have o2 := Own.perm ((o1.addNew b2 r2 (fun k hk => by cases hk; first | exact Nat.le_of_eq s0 | exact Nat.le_of_eq s1)).below b3) (List.Perm.swap _ _ _)
  have HBU : Built W2 (w.heap.size + 1) (.slice (some ⟨w.heap.size + 1, 0, none⟩) 2 2) (.slice (some ⟨w.heap.size + 1 + 1 + 1 + 1, 0, none⟩) 2 2) [true, false] [[1, 0], [1, 0]] :=
    ⟨((hl.below b1).below b2).below b3, _, o2, r3, rfl⟩
  obtain ⟨va', vn', ev, hva, hvn⟩ := HBU.reads W2.heap.size (Nat.le_refl _) 1 0
  simp at ev
  obtain ⟨rfl, rfl⟩ := ev
  have hp := RelPtr.boxed (r := ⟨1, 0, [true, false], [[1, 0], [1, 0]]⟩) hva hvn (Nat.le_refl _) 27
  rw [s3] at hp
  obtain ⟨W3, hW3⟩ : ∃ W3, W3 = W2.alloc (.cells #[.int .i64 1, .int .i64 0, .slice (some ⟨w.heap.size + 1, 0, none⟩) 2 2, .slice (some ⟨w.heap.size + 1 + 1 + 1 + 1, 0, none⟩) 2 2] 27) := ⟨_, rfl⟩
  have hsz3 : W3.heap.size = w.heap.size + 1 + 1 + 1 + 1 + 1 + 1 := by rw [hW3, size_alloc', s3]
  have hp3 : RelPtr W3 (w.heap.size + 1 + 1 + 1 + 1 + 1) (w.heap.size + 1 + 1 + 1 + 1 + 1) ⟨1, 0, [true, false], [[1, 0], [1, 0]]⟩ := by rw [hW3]; exact hp
  have HT := Lib.hid (SpecTidied.tidied iNum iNum_ok (w.heap.size + 1 + 1 + 1 + 1 + 1) W3 W3.heap.size (by rw [iNum_rel]; exact SpecTidied.RelPtr.mono hp3 (by omega)) (Nat.le_refl _) (by omega) (by show 2 ≤ 100000; omega))
  rw [show ((iNum.k : Nat) : Int) = 1 from rfl] at HT
  have HR3 := Lib.hid (show Res0 w w.heap.size W3 by rw [hW3]; exact HR.out.alloc _)
  have HWW := Lib.hid (show W3 = ((((((w.alloc (.cells #[Value.int .i64 0, .int .i64 0, .slice none 0 0, .slice none 0 0] 27)).alloc (.cells #[.bool true, .bool false] 4)).alloc (.cells #[.int .i64 1, .int .i64 0] 2)).alloc (.cells #[.int .i64 1, .int .i64 0] 2)).alloc (.cells #[.slice (some ⟨w.heap.size + 1 + 1, 0, none⟩) 2 2, .slice (some ⟨w.heap.size + 1 + 1 + 1, 0, none⟩) 2 2] 49))).alloc (.cells #[.int .i64 1, .int .i64 0, .slice (some ⟨w.heap.size + 1, 0, none⟩) 2 2, .slice (some ⟨w.heap.size + 1 + 1 + 1 + 1, 0, none⟩) 2 2] 27) by rw [hW3, hW2, hA2, hA1, hA0])
  clear hW3 hW2 hA2 hA1 hA0 s0 s1 s2 s3 b1 b2 b3 hl r1 r2 r3 o1 o2 HBU hva hvn hp hp3 hsz3 HR
  go_enter Try.func59, Try.ntmps59
  go_wp2_with fail
  rw [← HWW.out]
  refine HT.out.mono ?_
  rintro e w3 ⟨va3, vn3, rfl, hbu, hb⟩
  have HR4 := Lib.hid (HR3.out.step hb)
  have HB3 := Lib.hid (show Built w3 (w.heap.size + 1) va3 vn3 (tidyAcc iNum) (tidyNext iNum) from hbu.mono HR3.out.lt)
  clear hbu hb HT HR3
  have hres := HR4.out.res
  obtain ⟨a7, n7, c7, rfl, -⟩ := HB3.out.acc.shape'
  obtain ⟨items7, -, hnx7, -⟩ := HB3.out.rows
  obtain ⟨b7, m7, d7, rfl, -⟩ := hnx7.shape'
  have r0 := cells_get hres 0
  have r1 := cells_get hres 1
  have r2 := cells_get hres 2
  have r3 := cells_get hres 3
  have f0 := cells_free hres 0
  have f1 := cells_free hres 1
  have f2 := cells_free hres 2
  have f3 := cells_free hres 3
  have hlS := HR4.out.lt
  have p0 := cells_set hres 0 (.int .i64 1)
  have p1 := cells_set p0 1 (.int .i64 0)
  have p2 := cells_set p1 2 (.slice a7 n7 c7)
  have p3 := cells_set p2 3 (.slice b7 m7 d7)
  simp at r0 r1 r2 r3 p3
  have g0 := cells_get p3 0
  have g1 := cells_get p3 1
  have g2 := cells_get p3 2
  have g3 := cells_get p3 3
  simp at g0 g1 g2 g3
  have HG := Lib.hid (And.intro g0 (And.intro g1 (And.intro g2 g3)))
  clear p0 p1 p2 p3 g0 g1 g2 g3 hres hnx7
  go_wp2_with fail
  obtain ⟨g0, g1, g2, g3⟩ := HG.out
  refine bodyPost_ret (v := .agg #[.int .i64 1, .int .i64 0, .slice a7 n7 c7, .slice b7 m7 d7]) (by simp [results, Try.results59, go_sem, g0, g1, g2, g3]) rfl ⟨.slice a7 n7 c7, .slice b7 m7 d7, rfl, ?_, ?_⟩
  · exact (((((HB3.out.setLow (a := ⟨w.heap.size, 0, none⟩) (Nat.lt_succ_self _) _).setLow (a := ⟨w.heap.size, 1, none⟩) (Nat.lt_succ_self _) _).setLow (a := ⟨w.heap.size, 2, none⟩) (Nat.lt_succ_self _) _).setLow (a := ⟨w.heap.size, 3, none⟩) (Nat.lt_succ_self _) _).mono (Nat.le_succ_of_le HR4.out.hR))
  · exact ((((HR4.out.base.setCell (p := ⟨w.heap.size, 0, none⟩) HR4.out.hR _).setCell (p := ⟨w.heap.size, 1, none⟩) HR4.out.hR _).setCell (p := ⟨w.heap.size, 2, none⟩) HR4.out.hR _).setCell (p := ⟨w.heap.size, 3, none⟩) HR4.out.hR _)

set_option maxHeartbeats 8000000 in
theorem specNum (w : World) : Calls Try.prog 30 #[] w fun e w' => ∃ va vn, e = .returned (.agg #[.int .i64 1, .int .i64 0, va, vn]) ∧ Built w' w.heap.size va vn (tidyAcc iNum) (tidyNext iNum) ∧ Below w.heap.size w w' := by
  have HR := Lib.hid (Res0.new (Below.refl _ w))
  have HE := Lib.hid (specDomain (w.alloc (.cells #[Value.int .i64 0, .int .i64 0, .slice none 0 0, .slice none 0 0] 27)))
  go_enter Try.func30, Try.ntmps30
  go_wp2_with fail
  refine HE.out.mono ?_
  rintro e w3 ⟨va3, vn3, rfl, hbu, hb⟩
  have HR3 := Lib.hid (HR.out.step hb)
  have HB3 := Lib.hid (show Built w3 (w.heap.size + 1) va3 vn3 (tidyAcc iNum) (tidyNext iNum) from hbu.mono HR.out.lt)
  clear hbu hb HE
  have hres := HR3.out.res
  obtain ⟨a7, n7, c7, rfl, -⟩ := HB3.out.acc.shape'
  obtain ⟨items7, -, hnx7, -⟩ := HB3.out.rows
  obtain ⟨b7, m7, d7, rfl, -⟩ := hnx7.shape'
  have r0 := cells_get hres 0
  have r1 := cells_get hres 1
  have r2 := cells_get hres 2
  have r3 := cells_get hres 3
  have f0 := cells_free hres 0
  have f1 := cells_free hres 1
  have f2 := cells_free hres 2
  have f3 := cells_free hres 3
  have hlS := HR3.out.lt
  have p0 := cells_set hres 0 (.int .i64 1)
  have p1 := cells_set p0 1 (.int .i64 0)
  have p2 := cells_set p1 2 (.slice a7 n7 c7)
  have p3 := cells_set p2 3 (.slice b7 m7 d7)
  simp at r0 r1 r2 r3 p3
  have g0 := cells_get p3 0
  have g1 := cells_get p3 1
  have g2 := cells_get p3 2
  have g3 := cells_get p3 3
  simp at g0 g1 g2 g3
  have HG := Lib.hid (And.intro g0 (And.intro g1 (And.intro g2 g3)))
  clear p0 p1 p2 p3 g0 g1 g2 g3 hres hnx7
  go_wp2_with fail
  obtain ⟨g0, g1, g2, g3⟩ := HG.out
  refine bodyPost_ret (v := .agg #[.int .i64 1, .int .i64 0, .slice a7 n7 c7, .slice b7 m7 d7]) (by simp [results, Try.results30, go_sem, g0, g1, g2, g3]) rfl ⟨.slice a7 n7 c7, .slice b7 m7 d7, rfl, ?_, ?_⟩
  · exact (((((HB3.out.setLow (a := ⟨w.heap.size, 0, none⟩) (Nat.lt_succ_self _) _).setLow (a := ⟨w.heap.size, 1, none⟩) (Nat.lt_succ_self _) _).setLow (a := ⟨w.heap.size, 2, none⟩) (Nat.lt_succ_self _) _).setLow (a := ⟨w.heap.size, 3, none⟩) (Nat.lt_succ_self _) _).mono (Nat.le_succ_of_le HR3.out.hR))
  · exact ((((HR3.out.base.setCell (p := ⟨w.heap.size, 0, none⟩) HR3.out.hR _).setCell (p := ⟨w.heap.size, 1, none⟩) HR3.out.hR _).setCell (p := ⟨w.heap.size, 2, none⟩) HR3.out.hR _).setCell (p := ⟨w.heap.size, 3, none⟩) HR3.out.hR _)

end Go.Proofs.Ytpdplfgljjkjbaa.NumDom
