
/- What the model's function that makes the tidy relation hands back: lists of its own.
   Conditions: the relation has the form that is asked, and at most 100000 states. -/
import Derived.Test.YtaimealknkhfbaaDoorRB8
import Derived.Test.YtaimealknkhfbaaDoorRB11
import Derived.Test.YtaimealknkhfbaaDoorRB2
namespace Go.Proofs.YtaimealknkhfbaaDoor.SpecTidied
set_option linter.unusedVariables false
set_option linter.unusedSimpArgs false
open Go.RowKit Mem Copy Rel Valid Heap Columns TidyMath TidyClass TidyAuto TidyRight TidyNum SpecFiner SpecNum SpecRight Bld

theorem RelPtr.mono {w : World} {B C bp : Nat} {r : R} (h : RelPtr w B bp r) (hB : B ≤ C) : RelPtr w C bp r := by
  obtain ⟨va, vn, c0, c1, c2, c3, ha, hn⟩ := h
  exact ⟨va, vn, c0, c1, c2, c3, ha.mono hB, hn.mono hB⟩

/-- The automaton in memory. -/
def xOf (l : L) : R := ⟨l.k, 0, accM l, (nxM l).map ofN⟩
theorem nxM_len (l : L) : (nxM l).length = (F l).length + 1 := by simp [nxM]
theorem accM_len (l : L) : (accM l).length = (F l).length + 1 := by simp [accM]
theorem nxM_row {l : L} (hl : l.Ok) {s : Nat} (hs : s < (F l).length + 1) : ((nxM l).getD s []).length = wide l.k ∧ ∀ k, k < wide l.k → ((nxM l).getD s []).getD k 0 < (F l).length + 1 := by
  have h1 : (nxM l).getD s [] = (auM l).nx s := rfl
  have hlen : ((auM l).nx s).length = wide l.k := by
    by_cases h : s < (F l).length
    · rw [auM_nx h, rowM_length]
    · obtain rfl : s = (F l).length := by omega
      rw [auM_dead, List.length_replicate]
  refine ⟨by rw [h1]; exact hlen, fun k hk => ?_⟩
  rw [h1]
  have := (fits hl).2 s hs (((auM l).nx s).getD k 0) (by rw [List.getD, List.getElem?_eq_getElem (by rw [hlen]; exact hk)]; exact List.getElem_mem _)
  exact this
theorem rowsOk {l : L} (hl : l.Ok) : RowsOk (nxM l) ((F l).length + 1) (wide l.k) := ⟨nxM_len l, fun s hs => nxM_row hl hs⟩
theorem F_few {l : L} (hl : l.Ok) : (F l).length ≤ l.acc.length * 8 := places_len hl _

set_option maxRecDepth 100000 in
set_option maxHeartbeats 8000000 in
theorem tidied (l : L) (hl : l.Ok) (bp : Nat) (w : World) (B : Nat) (h : RelPtr w B bp (relOf l)) (hB : B ≤ w.heap.size) (hbp : bp < w.heap.size) (hn : l.acc.length ≤ 100000) :
    Calls Tryd.prog 14 #[.pointer (some ⟨bp, 0, none⟩)] w fun e w' => ∃ va vn, e = .returned (.agg #[.int .i64 l.k, .int .i64 0, va, vn]) ∧ Built w' w.heap.size va vn (tidyAcc l) (tidyNext l) ∧ Below w.heap.size w w' := by
  have HREL := Lib.hid (fun W (hb : Below w.heap.size w W) => h.below hb hB hbp)
  have HBB := Lib.hid hB
  have HRIGHT := Lib.hid (fun W (h : RelPtr W B bp (relOf l)) (hB : B ≤ W.heap.size) (hbp : bp < W.heap.size) => right l hl bp W B h hB hbp hn)
  obtain ⟨-, -, c0, -, -, -, -, -⟩ := h
  have c0' : w.cell? ⟨bp, 0, none⟩ = some (.int .i64 l.k) := c0
  obtain ⟨k, hk⟩ : ∃ k, k = l.k := ⟨_, rfl⟩
  have HKK := Lib.hid hk
  rw [← hk] at c0' HRIGHT
  rw [← hk]
  obtain ⟨n, hnn⟩ : ∃ n, n = (F l).length + 1 := ⟨_, rfl⟩
  have hn8 : n ≤ 800001 := by have := F_few hl; omega
  have hn1 : 1 ≤ n := by omega
  have HNN := Lib.hid hnn
  have HHL := Lib.hid hl
  clear hk hnn hB c0
  go_enter Tryd.func14, Tryd.ntmps14
  go_wp2_with fail
  refine (HRIGHT.out _ (HREL.out _ ((Below.refl _ _).alloc (Nat.le_refl _) _)) (by have := HBB.out; simp; omega) (by simp; omega)).mono ?_
  rintro e w2 ⟨va, vn, rfl, hbuilt, hbel⟩
  have HKP := Lib.hid (show Kp w w2 from by have := hbel; rwa [size_alloc'] at this)
  have HBU := Lib.hid hbuilt
  obtain ⟨X, hX⟩ : ∃ X, X = w2.heap.size := ⟨_, rfl⟩
  have HX := Lib.hid hX
  obtain ⟨aa, na, ca, rfl, HNA⟩ := hbuilt.acc.shape'
  have hna : na = n := by rw [HNA.out, List.length_map, accM_len, HNN.out]
  subst hna
  obtain ⟨ab, nb, cb, rfl, HNB⟩ := hbuilt.rows.choose_spec.2.1.shape'
  have HR3 := Lib.hid (show RelPtr (w2.alloc (.cells #[.int .i64 k, .int .i64 0, .slice aa na ca, .slice ab nb cb] 27)) (X + 1) X (xOf l) by
    obtain ⟨va', vn', e, ha, hn'⟩ := hbuilt.reads X (by rw [hX]; exact Nat.le_refl _) k 0
    injection e with e
    simp at e
    obtain ⟨rfl, rfl⟩ := e
    have := RelPtr.boxed (r := ⟨k, 0, accM l, (nxM l).map ofN⟩) ha hn' (by rw [hX]; exact Nat.le_refl _) 27
    rw [← hX] at this
    unfold xOf
    rw [← HKK.out]
    exact RelPtr.mono this (Nat.le_succ _))
  clear hbuilt hbel HNA HNB
  have hmk := run_make_row' (P := Tryd.prog) 52 2 (.int .i64 0) 8 Tryd.underlying52 info2 rfl .i64 .i64 na (by omega) (by omega)
  have hsz3 : (w2.alloc (.cells #[.int .i64 k, .int .i64 0, .slice aa na ca, .slice ab nb cb] 27)).heap.size = X + 1 := by rw [size_alloc', hX]
  have HRES := Lib.hid (show (w2.alloc (.cells #[.int .i64 k, .int .i64 0, .slice aa na ca, .slice ab nb cb] 27)).heap[w.heap.size]? = some (.cells #[Value.int .i64 0, .int .i64 0, .slice none 0 0, .slice none 0 0] 27 (0, 0)) by
    rw [Below.heap_alloc _ _ _ (by have := HKP.out.size; omega)]; exact HKP.out.res)
  have HBW := Lib.hid (show Below w.heap.size w (w2.alloc (.cells #[.int .i64 k, .int .i64 0, .slice aa na ca, .slice ab nb cb] 27)) from HKP.out.base.alloc (by have := HKP.out.size; omega) _)
  have hSX := HKP.out.size
  rw [← hX] at hSX
  obtain ⟨w3, hw3⟩ : ∃ w3, w3 = w2.alloc (.cells #[.int .i64 k, .int .i64 0, .slice aa na ca, .slice ab nb cb] 27) := ⟨_, rfl⟩
  rw [← hw3] at HR3 hsz3 HRES HBW
  have HL0 := Lib.hid (show Lst (w3.alloc (.cells (madeCells #[Value.int .i64 0] na) 2)) (X + 1) 2 (.slice (some ⟨X + 1, 0, none⟩) na na) (tv na fun i => if i < 0 then ((cls (auM l) 0 i : Nat) : Int) else 0) by
    have h1 := Lst.made w3 (X + 1) 2 (.int .i64 0) na (by rw [hsz3]; exact Nat.le_refl _) (by unfold maxLen; omega)
    rw [tv_rep, hsz3] at h1
    exact h1)
  have HB0 := Lib.hid (show Below (X + 1) w3 (w3.alloc (.cells (madeCells #[Value.int .i64 0] na) 2)) from (Below.refl _ _).alloc (by rw [hsz3]; exact Nat.le_refl _) _)
  have HS3 := Lib.hid hsz3
  have HR3W := Lib.hid (fun W (hb : Below (X + 1) w3 W) => HR3.out.below hb (Nat.le_refl _) (Nat.lt_succ_self _))
  go_wp2_with fail
  rw [← hX, ← hw3]
  clear hw3 hX hsz3 hmk
  go_loopw [5] (fun i wr => ∃ j : Nat, j ≤ na ∧ i = .int .i64 j ∧ Lst wr (X + 1) 2 (.slice (some ⟨X + 1, 0, none⟩) na na) (tv na fun i => if i < j then ((cls (auM l) 0 i : Nat) : Int) else 0) ∧ Below (X + 1) w3 wr) (fun i _ => na - (intOf i).toNat)
  case atStart => exact ⟨0, Nat.zero_le _, rfl, HL0.out, HB0.out⟩
  case round =>
    obtain ⟨j, hj, rfl, hlst, hbel⟩ := hrel
    have HL := Lib.hid hlst
    have HB := Lib.hid hbel
    obtain ⟨va', vn', -, -, q2, -, ⟨a6, b6, o6, cp6, rfl, -, haa6, hca6⟩, -⟩ := HR3W.out _ hbel
    have hXl : X < wr.heap.size := World.block_lt_of_cell? _ _ q2
    have hal : (xOf l).accept.length = na := by show (accM l).length = na; rw [accM_len, HNN.out]
    rw [hal] at q2 haa6 hca6
    obtain ⟨rfl, -⟩ := haa6 (by omega)
    clear hlst hbel HL0 HB0 haa6 hal
    by_cases hlt : j < na
    · have cA : wr.cell? ⟨b6, o6 + j, none⟩ = some (.bool ((xOf l).accept.getD j false)) := hca6 j hlt
      have c7 := HL.out.cellOf (i := j) (by rw [tv_length]; exact hlt)
      rw [tv_get, if_neg (Nat.lt_irrefl j)] at c7
      have f7 := HL.out.free j
      have hlX := World.block_lt_of_cell? _ _ c7
      have HST := Lib.hid (show (fun i => if i < j + 1 then ((cls (auM l) 0 i : Nat) : Int) else 0) = (fun i => if i = j then ((cls (auM l) 0 j : Nat) : Int) else if i < j then ((cls (auM l) 0 i : Nat) : Int) else 0) from funext fun i => by
        by_cases e : i = j
        · subst e; simp
        · have : (i < j + 1) = (i < j) := by apply propext; constructor <;> intro h <;> omega
          simp [e, this])
      have hcl : cls (auM l) 0 j = if (xOf l).accept.getD j false = true then 1 else 0 := rfl
      obtain ⟨u, hu⟩ : ∃ u, u = (xOf l).accept.getD j false := ⟨_, rfl⟩
      rw [← hu] at cA hcl
      clear hu hca6
      cases u with
      | true =>
        have HCL := Lib.hid hcl
        clear hcl
        go_wp2_with fail
        go_roundw
        case rel =>
          have h1 := HL.out.set (i := j) (by rw [tv_length]; exact hlt) (.int .i64 1)
          rw [tv_set] at h1
          exact ⟨j + 1, hlt, by go_num, by rw [HST.out, HCL.out]; exact h1, HB.out.setCell (p := ⟨X + 1, j, none⟩) (Nat.le_refl _) _⟩
        case measure => simp [intOf]; omega
      | false =>
        have HCL := Lib.hid hcl
        clear hcl
        go_wp2_with fail
        go_roundw
        case rel =>
          have h1 := HL.out
          rw [show (tv na fun i => if i < j then ((cls (auM l) 0 i : Nat) : Int) else 0) = tv na (fun i => if i < j + 1 then ((cls (auM l) 0 i : Nat) : Int) else 0) from tv_congr fun i hi => by
            rw [congrFun HST.out i]
            by_cases e : i = j
            · subst e; rw [if_neg (Nat.lt_irrefl i), if_pos rfl, HCL.out]; rfl
            · rw [if_neg e]] at h1
          exact ⟨j + 1, hlt, by go_num, h1, HB.out⟩
        case measure => simp [intOf]; omega
    · obtain rfl : j = na := by omega
      have HI0 := Lib.hid (show Ints wr wr.heap.size (.slice (some ⟨X + 1, 0, none⟩) j j) (tabN j (cls (auM l) 0)) by
        have h1 := HL.out.reads wr.heap.size (Nat.le_refl _) (.int .i64 0)
        rw [tv_length] at h1
        unfold Ints
        rw [tabN_length]
        exact h1.congr fun i hi => by
          rw [tabN_get _ _ hi]
          simp [tv, List.getD, hi])
      clear hca6
      go_wp2_with fail
      go_loopw [4, 6, 7, 8, 38] (fun s4 s6 _ _ _ wr => ∃ (q : Nat) (a4 : Option Addr) (cap4 : Nat), s4 = .slice a4 j cap4 ∧ s6 = .int .i64 (cn (auM l) q : Nat) ∧ Ints wr wr.heap.size s4 (tabN j (cls (auM l) q)) ∧ (∀ i, i < q → cn (auM l) (i + 1) ≠ cn (auM l) i) ∧ Below (X + 1) w3 wr ∧ (0 < q → ∃ g, a4 = some ⟨g, 0, none⟩)) (fun _ s6 _ _ _ _ => j + 1 - (intOf s6).toNat)
      case atStart => exact ⟨0, _, _, rfl, rfl, HI0.out, fun i h => absurd h (Nat.not_lt_zero i), HB.out, fun _ => ⟨_, rfl⟩⟩
      case round =>
        obtain ⟨q, a4, cap4, rfl, rfl, hints, hq, hbel, -⟩ := hrel
        have HI := Lib.hid hints
        have HQ := Lib.hid hq
        have HB2 := Lib.hid hbel
        have HXB := Lib.hid (show X < wr.heap.size by have := hbel.size; rw [HS3.out] at this; omega)
        have HFI := Lib.hid (finer (nxM l) j (wide l.k) (cls (auM l) q) X wr wr.heap.size (xOf l) (RelPtr.mono (HR3W.out _ hbel) (by have := hbel.size; rw [HS3.out] at this; exact this)) (Nat.le_refl _) HXB.out rfl _ HI.out (by rw [HNN.out]; exact rowsOk HHL.out) (by have := wide_cases HHL.out.k0 HHL.out.k3; omega) (by omega))
        have hcq : cn (auM l) q ≤ j := by rw [HNN.out]; exact cn_le (auM l) q
        have hcq1 : cn (auM l) (q + 1) ≤ j := by rw [HNN.out]; exact cn_le (auM l) (q + 1)
        have hmono := cn_mono (auM l) q
        have HE1 := Lib.hid (show (reps (key (nxM l) (cls (auM l) q)) j).length = cn (auM l) (q + 1) by rw [HNN.out]; rfl)
        have HE2 := Lib.hid (show ∀ s, idx (key (nxM l) (cls (auM l) q)) (reps (key (nxM l) (cls (auM l) q)) j) s = cls (auM l) (q + 1) s by rw [HNN.out]; intro s; rfl)
        obtain ⟨c0, hc0⟩ : ∃ c, c = cn (auM l) q := ⟨_, rfl⟩
        obtain ⟨c1, hc1⟩ : ∃ c, c = cn (auM l) (q + 1) := ⟨_, rfl⟩
        have HC0 := Lib.hid hc0
        have HC1 := Lib.hid hc1
        rw [HE1.out] at HFI
        rw [← hc0] at hcq hmono
        rw [← hc1] at hcq1 hmono HFI
        rw [← hc0]
        clear hints hq hbel HI0 HL HB hc0 hc1
        go_wp2_with fail
        refine HFI.out.mono ?_
        rintro e w5 ⟨v5, rfl, hl5, hb5⟩
        obtain ⟨a5, n5, cp5, rfl, HN5⟩ := hl5.shape'
        have hn5 : n5 = j := by rw [HN5.out, tv_length]
        subst hn5
        have HB5 := Lib.hid (HB2.out.trans (hb5.mono (by have := HB2.out.size; rw [HS3.out] at this; exact this)))
        have HI5 := Lib.hid (show Ints w5 w5.heap.size (.slice a5 n5 cp5) (tabN n5 (cls (auM l) (q + 1))) by
          have h1 := hl5.reads w5.heap.size (Nat.le_refl _) (.int .i64 0)
          rw [tv_length] at h1
          unfold Ints
          rw [tabN_length]
          exact h1.congr fun i hi => by
            rw [tabN_get _ _ hi, ← HE2.out i]
            simp [tv, List.getD, hi])
        have HA5 := Lib.hid (hl5.addr (by rw [tv_length]; omega))
        clear hl5 hb5 HFI HI
        by_cases he : c1 = c0
        · subst he
          have hstop : stop (auM l) = q := (stop_stops (auM l)).unique ⟨by rw [← HC1.out, ← HC0.out], HQ.out⟩
          have HKAP := Lib.hid (show cls (auM l) (q + 1) = cls (auM l) (stop (auM l) + 1) by rw [hstop])
          have HMOST := Lib.hid (show c1 = most (auM l) by rw [HC1.out]; unfold most; rw [hstop])
          have hM1 : 1 ≤ c1 := by rw [HC1.out]; exact reps_pos _ (show 0 < (F l).length + 1 by omega)
          obtain ⟨N5, hN5⟩ : ∃ N5, N5 = w5.heap.size := ⟨_, rfl⟩
          have HN5S := Lib.hid hN5
          have hXN : X + 1 ≤ N5 := by rw [hN5]; have := HB5.out.size; rw [HS3.out] at this; exact this
          have HRW := Lib.hid (fun W (hb : Below N5 w5 W) => (RelPtr.mono (C := N5) (HR3W.out _ HB5.out) hXN).below hb (Nat.le_refl _) (by omega))
          have HCW := Lib.hid (fun W (hb : Below N5 w5 W) => (show Ints w5 N5 (.slice a5 n5 cp5) (tabN n5 (κ (auM l))) by have h := HI5.out; rw [HKAP.out, ← hN5] at h; exact h).below hb (Nat.le_refl _))
          have HRES5 := Lib.hid (show w5.heap[w.heap.size]? = some (.cells #[Value.int .i64 0, .int .i64 0, .slice none 0 0, .slice none 0 0] 27 (0, 0)) by rw [HB5.out.block _ (by omega)]; exact HRES.out)
          have HBW5 := Lib.hid (show Below w.heap.size w w5 from HBW.out.trans (HB5.out.mono (by omega)))
          have hmk := run_make_row' (P := Tryd.prog) 52 2 (.int .i64 0) 8 Tryd.underlying52 info2 rfl .i64 .i64 c1 (by omega) (by omega)
          have HO0 := Lib.hid (show Own (w5.alloc (.cells (madeCells #[Value.int .i64 0] c1) 2)) N5 2 [(.slice (some ⟨N5, 0, none⟩) c1 c1, tv c1 fun i => if i < 0 then -1 else 0)] by
            have h1 := Lst.made w5 N5 2 (.int .i64 0) c1 (by rw [hN5]; exact Nat.le_refl _) (by unfold maxLen; omega)
            rw [tv_rep, ← hN5] at h1
            exact Own.add (Own.nil _ _ _) h1 (fun p hp => by cases hp))
          have HB0 := Lib.hid (show Below N5 w5 (w5.alloc (.cells (madeCells #[Value.int .i64 0] c1) 2)) from (Below.refl _ _).alloc (by rw [hN5]; exact Nat.le_refl _) _)
          have HSW := Lib.hid (show N5 + 1 ≤ (w5.alloc (.cells (madeCells #[Value.int .i64 0] c1) 2)).heap.size by rw [size_alloc', hN5]; exact Nat.le_refl _)
          clear hstop HI5 HB2 HR3W HQ hmono
          go_wp2_with fail
          rw [← hN5]
          clear hN5
          go_loopw [10] (fun i wr => ∃ j : Nat, j ≤ c1 ∧ i = .int .i64 j ∧ Own wr N5 2 [(.slice (some ⟨N5, 0, none⟩) c1 c1, tv c1 fun i => if i < j then -1 else 0)] ∧ Below N5 w5 wr ∧ N5 + 1 ≤ wr.heap.size) (fun i _ => c1 - (intOf i).toNat)
          case atStart => exact ⟨0, Nat.zero_le _, rfl, HO0.out, HB0.out, HSW.out⟩
          case round =>
            obtain ⟨j, hj, rfl, hown, hbel, hsz⟩ := hrel
            have HO := Lib.hid hown
            have HB := Lib.hid hbel
            have HSZ := Lib.hid hsz
            clear hown hbel hmk HO0 HB0 hsz HSW
            by_cases hlt : j < c1
            · have c7 := (Own.get [] [] HO.out).cellOf (i := j) (by rw [tv_length]; exact hlt)
              rw [tv_get, if_neg (Nat.lt_irrefl j)] at c7
              have f7 := (Own.get [] [] HO.out).free j
              go_wp2_with fail
              go_roundw
              case rel =>
                have h1 := Own.set [] [] (i := j) HO.out (by rw [tv_length]; exact hlt) (.int .i64 (-1))
                rw [tv_set, List.nil_append] at h1
                refine ⟨j + 1, hlt, by go_num, ?_, HB.out.setCell (p := ⟨N5, j, none⟩) (Nat.le_refl _) _, by simpa [World.setCell] using HSZ.out⟩
                rw [show (fun i => if i < j + 1 then (-1 : Int) else 0) = (fun i => if i = j then (-1 : Int) else if i < j then -1 else 0) from funext fun i => by
                  by_cases e : i = j
                  · simp [e]
                  · have : (i < j + 1) = (i < j) := by apply propext; constructor <;> intro h <;> omega
                    simp [e, this]]
                exact h1
              case measure => simp [intOf]; omega
            · obtain rfl : j = c1 := by omega
              have HO1 := Lib.hid (show Own wr N5 2 [(.slice (some ⟨N5, 0, none⟩) j j, tv j (numC (κ (auM l)) []))] from by
                have h1 := HO.out
                rw [tv_congr (S := numC (κ (auM l)) []) (fun i hi => by rw [if_pos hi, numC_none])] at h1
                exact h1)
              obtain ⟨va', vn', -, q1, -, -, -, -⟩ := HRW.out _ HB.out
              have q1' : wr.cell? ⟨X, 1, none⟩ = some (.int .i64 0) := q1
              obtain ⟨q0, hq0⟩ : ∃ q0, q0 = κ (auM l) 0 := ⟨_, rfl⟩
              have HQ0 := Lib.hid hq0
              have hq0j : q0 < j := by
                have h1 := cls_lt (auM l) (stop (auM l)) (s := 0) (show 0 < (F l).length + 1 by omega)
                rw [hq0, HMOST.out]; exact h1
              obtain ⟨a9, b9, o9, cp9, e9, -, haa9, hca9⟩ := HCW.out _ HB.out
              have e9' : a5 = a9 := by injection e9
              subst e9'
              rw [tabN_length] at haa9 hca9
              obtain ⟨rfl, -⟩ := haa9 (by omega)
              have k9 : wr.cell? ⟨b9, o9, none⟩ = some (.int .i64 (q0 : Nat)) := by
                have : wr.cell? ⟨b9, o9 + 0, none⟩ = some (.int .i64 ((tabN n5 (κ (auM l))).getD 0 0)) := hca9 0 (by omega)
                rw [tabN_get _ _ (show 0 < n5 by omega), ← hq0] at this
                exact this
              have hb0 : wr.cell? ⟨bp, 0, none⟩ = some (.int .i64 k) := ((HBW5.out.trans (HB.out.mono (by omega))).cell (p := ⟨bp, 0, none⟩) hbp).trans c0'
              have c7 := (Own.get [] [] HO1.out).cellOf (i := q0) (by rw [tv_length]; exact hq0j)
              have f7 := (Own.get [] [] HO1.out).free q0
              rw [tv_get, numC_none] at c7
              have hl9 := World.block_lt_of_cell? _ _ k9
              have hlX := World.block_lt_of_cell? _ _ q1'
              have hlb := World.block_lt_of_cell? _ _ hb0
              have hl7 := World.block_lt_of_cell? _ _ c7
              obtain ⟨Z, hZ⟩ : ∃ Z, Z = wr.heap.size := ⟨_, rfl⟩
              have HFIT := Lib.hid (fits HHL.out)
              have HBLD := Lib.hid (show Bld (((wr.setCell ⟨N5, q0, none⟩ (.int .i64 0)).alloc (.cells #[Value.int .i64 0] 2)).alloc (.cells #[Value.int .i64 k, .int .i64 0, .slice none 0 0, .slice none 0 0] 27)) N5 (Z + 1) k 0 (.slice none 0 0) (.slice none 0 0)
                  [(.slice (some ⟨N5, 0, none⟩) j j, tv j (numC (κ (auM l)) (met (auM l) 0 0))), (.slice (some ⟨Z, 0, none⟩) 1 1, iv (met (auM l) 0 0))] [] [] by
                have h1 := Own.set [] [] (i := q0) HO1.out (by rw [tv_length]; exact hq0j) (.int .i64 0)
                rw [tv_set, List.nil_append] at h1
                have hpl : met (auM l) 0 0 = meet (κ (auM l)) [] 0 := by rw [show met (auM l) 0 0 = [0] from rfl]; simp [meet, TidyMath.idx]
                have h2 : tv j (fun i => if i = q0 then (0 : Int) else numC (κ (auM l)) [] i) = tv j (numC (κ (auM l)) (met (auM l) 0 0)) := by
                  rw [hpl]
                  refine tv_congr fun i hi => ?_
                  rw [numC_meet (by simp [TidyMath.idx]), ← HQ0.out]
                  rfl
                rw [h2] at h1
                have hsz1 : (wr.setCell ⟨N5, q0, none⟩ (.int .i64 0)).heap.size = Z := by rw [hZ]; simp [World.setCell]
                have h3 := Lst.one (wr.setCell ⟨N5, q0, none⟩ (.int .i64 0)) N5 2 (.int .i64 0) (by rw [hsz1, hZ]; have := HSZ.out; omega)
                rw [hsz1] at h3
                have h4 : iv (met (auM l) 0 0) = [Value.int .i64 (0 : Int)] := by rw [show met (auM l) 0 0 = [0] from rfl]; simp [iv]
                have h5 := h1.addNew (w' := (wr.setCell ⟨N5, q0, none⟩ (.int .i64 0)).alloc (.cells #[Value.int .i64 0] 2)) ((Below.refl _ _).alloc (Nat.le_refl _) _) h3 (fun q hq => by rw [hsz1]; cases hq; exact Nat.le_refl _)
                have h6 : ((wr.setCell ⟨N5, q0, none⟩ (.int .i64 0)).alloc (.cells #[Value.int .i64 0] 2)).heap.size = Z + 1 := by rw [size_alloc', hsz1]
                refine ⟨?_, Lst.nil _ _ _, Lst.nil _ _ _, ?_, by rw [hZ]; have := HSZ.out; omega⟩
                · rw [h4]
                  exact Own.perm (h5.alloc _) (List.Perm.swap _ _ _)
                · rw [← h6]
                  exact heap_alloc_new _ _)
              have HBWW := Lib.hid (show Below N5 w5 (((wr.setCell ⟨N5, q0, none⟩ (.int .i64 0)).alloc (.cells #[Value.int .i64 0] 2)).alloc (.cells #[Value.int .i64 k, .int .i64 0, .slice none 0 0, .slice none 0 0] 27)) from by
                refine Below.alloc (Below.alloc (HB.out.setCell (p := ⟨N5, q0, none⟩) (Nat.le_refl _) _) ?_ _) ?_ _
                · simp [World.setCell]; have := HSZ.out; omega
                · simp [World.setCell]; have := HSZ.out; omega)
              have HZ := Lib.hid hZ
              obtain ⟨wd, hwd⟩ : ∃ wd, wd = wide l.k := ⟨_, rfl⟩
              have hw26 : wd ≤ 26 := by rw [hwd]; have := wide_cases HHL.out.k0 HHL.out.k3; omega
              have hw2 : 2 ≤ wd := by rw [hwd]; have := wide_cases HHL.out.k0 HHL.out.k3; omega
              have HWW := Lib.hid hwd
              have HFEW := Lib.hid (fun i => met_few HFIT.out i)
              clear HO hq0 hca9 haa9 e9 q1 hwd
              go_wp2_with fail
              rw [← hZ]
              clear hZ c7 f7 hb0 hlb hl7 hlX hl9 k9 q1'
              go_loopw [11, 13, 14, 15, 16] (fun s11 s13 _ _ _ wr' => ∃ (i : Nat) (a11 : Option Addr) (cap11 : Nat) (va vn : Value) (items : List (Value × List Value)), i ≤ (met (auM l) 0 i).length ∧ s13 = .int .i64 i ∧ s11 = .slice a11 (met (auM l) 0 i).length cap11 ∧
                Bld wr' N5 (Z + 1) k 0 va vn [(.slice (some ⟨N5, 0, none⟩) j j, tv j (numC (κ (auM l)) (met (auM l) 0 i))), (.slice a11 (met (auM l) 0 i).length cap11, iv (met (auM l) 0 i))] items (((tid (auM l) 0).take i).map fun s => .bool ((auM l).acc s)) ∧
                items.map Prod.snd = ((tid (auM l) 0).take i).map (fun s => (tidRow (auM l) 0 s).map (Value.int .i64)) ∧ Below N5 w5 wr') (fun _ s13 _ _ _ _ => 800002 - (intOf s13).toNat)
              case atStart => exact ⟨0, _, _, _, _, [], Nat.zero_le _, rfl, rfl, HBLD.out, rfl, HBWW.out⟩
              case round =>
                obtain ⟨i, a11, cap11, va, vn, items, hi, rfl, rfl, hbld, hit, hbel⟩ := hrel
                have HD := Lib.hid hbld
                have HI := Lib.hid hit
                have HB2 := Lib.hid hbel
                obtain ⟨len, hlen⟩ : ∃ len, len = (met (auM l) 0 i).length := ⟨_, rfl⟩
                have hlm : len ≤ j := by rw [hlen, HMOST.out]; exact HFEW.out i
                rw [← hlen] at HD hi
                rw [← hlen]
                have HLEN := Lib.hid hlen
                clear hbld hit hbel HBLD HBWW hlen
                by_cases hlt : i < len
                · have hib : i < (met (auM l) 0 i).length := by rw [← HLEN.out]; exact hlt
                  obtain ⟨s, hs⟩ : ∃ s, s = (met (auM l) 0 i)[i] := ⟨_, rfl⟩
                  have hsn : s < n5 := by rw [hs, HNN.out]; exact met_lt HFIT.out i _ (List.getElem_mem hib)
                  have HSS := Lib.hid hs
                  have HIB := Lib.hid hib
                  obtain ⟨szr, hszr⟩ : ∃ szr, szr = wr.heap.size := ⟨_, rfl⟩
                  have HIN := Lib.hid (show Bld (wr.alloc (.cells #[] 2)) N5 (Z + 1) k 0 va vn ((.slice (some ⟨szr, 0, none⟩) 0 0, ((tidRow (auM l) 0 s).take 0).map (Value.int .i64)) :: [(.slice (some ⟨N5, 0, none⟩) j j, tv j (numC (κ (auM l)) (pt (auM l) 0 i 0))), (.slice a11 (pt (auM l) 0 i 0).length cap11, iv (pt (auM l) 0 i 0))]) items (((tid (auM l) 0).take i).map fun s => .bool ((auM l).acc s)) by
                    rw [pt_zero]
                    have h1 := Lst.empty wr N5 2 (by have := HD.out.lt; have := HD.out.obB; omega)
                    rw [← hszr] at h1
                    rw [← HLEN.out]
                    exact HD.out.addInt ((Below.refl _ _).alloc (Nat.le_refl _) _) h1 (fun q hq => by cases hq; rw [hszr]; exact Nat.le_refl _))
                  have HPZ := Lib.hid (show (pt (auM l) 0 i 0).length = len by rw [pt_zero]; exact HLEN.out.symm)
                  have HBI := Lib.hid (HB2.out.alloc (show N5 ≤ wr.heap.size by have := HD.out.lt; have := HD.out.obB; omega) (.cells #[] 2))
                  clear hs HD HB2
                  go_wp2_with fail
                  rw [← hszr]
                  clear hszr
                  go_loopw [11, 14, 15, 16] (fun s11 s14 s15 _ wr' => ∃ (c : Nat) (a11 : Option Addr) (cap11 : Nat) (a14 : Option Addr) (cap14 : Nat), c ≤ wd ∧ s15 = .int .i64 c ∧ s11 = .slice a11 (pt (auM l) 0 i c).length cap11 ∧ s14 = .slice a14 c cap14 ∧
                    Bld wr' N5 (Z + 1) k 0 va vn ((.slice a14 c cap14, ((tidRow (auM l) 0 s).take c).map (Value.int .i64)) :: [(.slice (some ⟨N5, 0, none⟩) j j, tv j (numC (κ (auM l)) (pt (auM l) 0 i c))), (.slice a11 (pt (auM l) 0 i c).length cap11, iv (pt (auM l) 0 i c))]) items (((tid (auM l) 0).take i).map fun s => .bool ((auM l).acc s)) ∧ Below N5 w5 wr') (fun _ _ s15 _ _ => 26 - (intOf s15).toNat)
                  case atStart => exact ⟨0, _, cap11, _, _, Nat.zero_le _, rfl, by rw [HPZ.out], rfl, HIN.out, HBI.out⟩
                  case round =>
                    obtain ⟨c, a11, cap11, a14, cap14, hc, rfl, rfl, rfl, hbld, hbel⟩ := hrel
                    have HE := Lib.hid hbld
                    have HB3 := Lib.hid hbel
                    obtain ⟨len7, hlen7⟩ : ∃ len7, len7 = (pt (auM l) 0 i c).length := ⟨_, rfl⟩
                    rw [← hlen7] at HE
                    rw [← hlen7]
                    have HL7 := Lib.hid hlen7
                    have HNX := Lib.hid (show ((auM l).nx s).length = wd ∧ ∀ q, q < wd → ((auM l).nx s).getD q 0 < n5 by
                      rw [HWW.out, HNN.out]; exact nxM_row HHL.out (by rw [← HNN.out]; exact hsn))
                    -- what is read
                    obtain ⟨hi7, hg7⟩ := pt_get (c := c) HIB.out
                    rw [← HSS.out] at hg7
                    obtain ⟨g7', rfl, -⟩ := (Own.get [_, _] _ HE.out.own).addr (by rw [iv_length]; omega)
                    have c7 := (Own.get [_, _] _ HE.out.own).cellOf (i := i) (by rw [iv_length]; exact hi7)
                    rw [iv_get, show (pt (auM l) 0 i c).getD i 0 = s by rw [List.getD, List.getElem?_eq_getElem hi7, Option.getD_some]; exact hg7] at c7
                    have hil7 : i < len7 := by rw [HL7.out]; exact hi7
                    obtain ⟨va', vn', -, -, r2, r3, ⟨a2, b2, o2, cp2, rfl, -, haa2, hca2⟩, ⟨V, ⟨a6, b6, o6, cp6, rfl, -, haa6, hca6⟩, hrows⟩⟩ := HRW.out _ hbel
                    have hal : (xOf l).accept.length = n5 := by show (accM l).length = n5; rw [accM_len, HNN.out]
                    have hnl : (xOf l).next.length = n5 := by show ((nxM l).map ofN).length = n5; rw [List.length_map, nxM_len, HNN.out]
                    rw [hal] at r2 haa2 hca2
                    rw [hnl] at r3 haa6 hca6
                    obtain ⟨rfl, -⟩ := haa2 (by omega)
                    obtain ⟨rfl, -⟩ := haa6 (by omega)
                    have n4 := hca6 s hsn
                    obtain ⟨a8, b8, o8, cp8, e8, -, haa8, hca8⟩ := hrows s (by rw [hnl]; exact hsn)
                    have er : (xOf l).next.getD s [] = ofN ((auM l).nx s) := by
                      show ((nxM l).map ofN).getD s [] = ofN ((nxM l).getD s [])
                      have : s < (nxM l).length := by rw [nxM_len, ← HNN.out]; exact hsn
                      simp [List.getD, this]
                    rw [er, ofN_length, HNX.out.1] at e8 haa8 hca8
                    rw [e8] at n4
                    obtain ⟨rfl, -⟩ := haa8 (by omega)
                    have hlX := World.block_lt_of_cell? _ _ r3
                    have hacc : wr.cell? ⟨b2, o2 + s, none⟩ = some (.bool ((xOf l).accept.getD s false)) := hca2 s hsn
                    clear hbld hbel HIN HBI hlen7 hg7 hi7 hal hnl haa2 hca2 haa6 hca6 hrows haa8 e8 er
                    have HRL := Lib.hid (show (((tidRow (auM l) 0 s).take c).map (Value.int .i64)).length = c by unfold tidRow; rw [List.length_map, List.length_take, List.length_map, HNX.out.1]; omega)
                    by_cases hcl : c < wd
                    · obtain ⟨t, ht⟩ : ∃ t, t = ((auM l).nx s).getD c 0 := ⟨_, rfl⟩
                      have htn : t < n5 := by rw [ht]; exact HNX.out.2 c hcl
                      have n5' : wr.cell? ⟨b8, o8 + c, none⟩ = some (.int .i64 (t : Nat)) := by
                        have : wr.cell? ⟨b8, o8 + c, none⟩ = some (.int .i64 ((ofN ((auM l).nx s)).getD c 0)) := hca8 c hcl
                        rw [ofN_get _ (by rw [HNX.out.1]; exact hcl), ← ht] at this
                        exact this
                      have hY := pt_step HFIT.out HIB.out HSS.out.symm (c := c) (t := t) (by rw [HNX.out.1]; exact hcl) (by rw [ht, List.getD, List.getElem?_eq_getElem (by rw [HNX.out.1]; exact hcl), Option.getD_some])
                      obtain ⟨hY1, hY2⟩ := hY
                      have HY1 := Lib.hid hY1
                      obtain ⟨d, hd⟩ : ∃ d, d = TidyMath.idx (κ (auM l)) (pt (auM l) 0 i c) t := ⟨_, rfl⟩
                      rw [← hd] at hY2
                      have HY2 := Lib.hid hY2
                      have HDD := Lib.hid hd
                      obtain ⟨y, hy⟩ : ∃ y, y = κ (auM l) t := ⟨_, rfl⟩
                      have HYC := Lib.hid hy
                      have hyj : y < j := by
                        have h1 := cls_lt (auM l) (stop (auM l)) (s := t) (show t < (F l).length + 1 by rw [← HNN.out]; exact htn)
                        rw [hy, HMOST.out]; exact h1
                      obtain ⟨a9, b9', o9', cp9, e9, -, haa9, hca9⟩ := HCW.out _ HB3.out
                      rw [tabN_length] at haa9 hca9
                      obtain ⟨ha9, hb9⟩ := haa9 (by omega)
                      rw [ha9] at e9
                      have e9' : b9 = b9' ∧ o9 = o9' := by injection e9 with e9; injection e9 with e9; injection e9 with e1 e2; exact ⟨e1, e2⟩
                      obtain ⟨rfl, rfl⟩ := e9'
                      have HC9 := Lib.hid hb9
                      have k9 : wr.cell? ⟨b9, o9 + t, none⟩ = some (.int .i64 (y : Nat)) := by
                        have : wr.cell? ⟨b9, o9 + t, none⟩ = some (.int .i64 ((tabN n5 (κ (auM l))).getD t 0)) := hca9 t htn
                        rw [tabN_get _ _ htn, ← hy] at this
                        exact this
                      have hnum : numC (κ (auM l)) (pt (auM l) 0 i c) y = if d < len7 then ((d : Nat) : Int) else -1 := by
                        rw [hy, numC_at, ← hd, HL7.out]
                      have cN := (Own.get [_] _ HE.out.own).cellOf (i := y) (by rw [tv_length]; exact hyj)
                      rw [tv_get, hnum] at cN
                      have fN := (Own.get [_] _ HE.out.own).free y
                      have hszN := lt_of_block HE.out.at_
                      have hl78 : len7 ≤ j := by rw [HL7.out, HMOST.out]; exact pt_few HFIT.out HIB.out
                      clear hca8 hca9 haa9 e9 hY1 hY2 hd hy hnum ht ha9 hb9
                      go_upto_region 26 with fail
                      go_cut [90] (fun v wx => v = .bool true ∧ ∃ m, wx = wr.drewN m)
                      case first =>
                        go_quiet (fail)
                        go_wp2_with fail
                        go_meet
                        exact ⟨rfl, _, rfl⟩
                      case rest =>
                        obtain ⟨rfl, m, rfl⟩ := hcut
                        have HE1 := Lib.hid (HE.out.drewN m)
                        have HB1 := Lib.hid (below_drewN HB3.out m)
                        have r3' : (wr.drewN m).cell? ⟨X, 3, none⟩ = _ := r3
                        have c7' : (wr.drewN m).cell? ⟨g7', i, none⟩ = _ := c7
                        have n4' : (wr.drewN m).cell? ⟨b6, o6 + s, none⟩ = _ := n4
                        have n5'' : (wr.drewN m).cell? ⟨b8, o8 + c, none⟩ = _ := n5'
                        have hlX' : X < (wr.drewN m).heap.size := hlX
                        have HK9 := Lib.hid (show ∀ m', ((wr.drewN m).drewN m').cell? ⟨b9, o9 + t, none⟩ = some (.int .i64 (y : Nat)) from fun _ => k9)
                        have HCN := Lib.hid (show ∀ m', ((wr.drewN m).drewN m').cell? ⟨N5, y, none⟩ = some (.int .i64 (if d < len7 then ((d : Nat) : Int) else -1)) from fun _ => cN)
                        have HFN := Lib.hid (show ∀ m', ((wr.drewN m).drewN m').frozen? ⟨N5, y, none⟩ = false from fun _ => fN)
                        clear r2 r3 c7 n4 n5' k9 cN fN hlX hacc HE HB3 hszN
                        generalize wr.drewN m = wq at HE1 HB1 r3' c7' n4' n5'' hlX' HK9 HCN HFN ⊢
                        go_upto_region 28 with fail
                        go_cut [16] (fun v wx => v = .int .i64 (t : Nat) ∧ ∃ m, wx = wq.drewN m)
                        case first =>
                          go_quiet (fail)
                          go_wp2_with fail
                          go_meet
                          exact ⟨rfl, _, rfl⟩
                        case rest =>
                          obtain ⟨rfl, m', rfl⟩ := hcut
                          have HE2 := Lib.hid (HE1.out.drewN m')
                          have HB2 := Lib.hid (below_drewN HB1.out m')
                          have k9 := HK9.out m'
                          have cN := HCN.out m'
                          have fN := HFN.out m'
                          clear r3' c7' n4' n5'' hlX' HK9 HCN HFN HE1 HB1
                          generalize wq.drewN m' = wz at HE2 HB2 k9 cN fN ⊢
                          have hl9 : b9 < wz.heap.size := World.block_lt_of_cell? _ _ k9
                          have hlN : N5 < wz.heap.size := World.block_lt_of_cell? _ _ cN
                          have HSZ2 := Lib.hid (show N5 ≤ wz.heap.size by omega)
                          by_cases hd7 : d < len7
                          · rw [if_pos hd7] at cN
                            have HM1 := Lib.hid (show pt (auM l) 0 i (c + 1) = pt (auM l) 0 i c by
                              rw [HY1.out]; unfold meet; rw [if_pos (by rw [← HDD.out, ← HL7.out]; exact hd7)])
                            go_wp2_with (at_builtin; refine wpList_push rfl _ _ 52 rfl 2 (.int .i64 0) 8 Tryd.underlying52 info2 (by decide) (by decide) N5 _ _ (.int .i64 d) (Own.get [] _ HE2.out.own) HSZ2.out rfl (by rw [HRL.out]; omega) rfl _ rfl rfl ?_; intro v5 w6 hp5; obtain ⟨a5, n5', cp5, rfl, HN5⟩ := hp5.lst.shape'; have HE5 := Lib.hid (HE2.out.pushInt [] [_, _] hp5); have HB7 := Lib.hid (HB2.out.grown hp5.grow HSZ2.out (fun q hq => (Own.get [] _ HE2.out.own).ge hq)); clear hp5)
                            go_roundw
                            case rel =>
                              have h5 : n5' = c + 1 := by rw [HN5.out, List.length_append, HRL.out]; rfl
                              subst h5
                              have h1 := HE5.out
                              rw [← HM1.out, List.nil_append, show (((tidRow (auM l) 0 s).take c).map (Value.int .i64) ++ [Value.int .i64 (d : Int)]) = ((tidRow (auM l) 0 s).take (c + 1)).map (Value.int .i64) by rw [HY2.out, List.map_append]; rfl] at h1
                              have h6 : len7 = (pt (auM l) 0 i (c + 1)).length := by rw [HM1.out]; exact HL7.out
                              rw [h6] at h1
                              rw [h6]
                              exact ⟨c + 1, _, cap11, a5, cp5, hcl, by go_num, rfl, rfl, h1, HB7.out⟩
                            case measure => simp [intOf]; omega
                          · rw [if_neg hd7] at cN
                            have hde : d = len7 := by have := TidyMath.idx_le (κ (auM l)) (pt (auM l) 0 i c) t; rw [← HDD.out, ← HL7.out] at this; omega
                            have HDE := Lib.hid hde
                            have hnidx : ¬ TidyMath.idx (κ (auM l)) (pt (auM l) 0 i c) t < (pt (auM l) 0 i c).length := by rw [← HDD.out, ← HL7.out]; exact hd7
                            have HE3 := Lib.hid (HE2.out.setInt [_] [_] (i := y) (by rw [tv_length]; exact hyj) (.int .i64 (len7 : Nat)))
                            have HB3' := Lib.hid (HB2.out.setCell (p := ⟨N5, y, none⟩) (Nat.le_refl _) (.int .i64 (len7 : Nat)))
                            have HM1 := Lib.hid (show pt (auM l) 0 i (c + 1) = pt (auM l) 0 i c ++ [t] by
                              rw [HY1.out]; unfold meet; rw [if_neg hnidx])
                            have HT1 := Lib.hid (show (tv j (numC (κ (auM l)) (pt (auM l) 0 i c))).set y (.int .i64 (len7 : Nat)) = tv j (numC (κ (auM l)) (pt (auM l) 0 i (c + 1))) by
                              rw [tv_set, HY1.out]
                              refine tv_congr fun i' hi' => ?_
                              rw [numC_meet hnidx, ← HYC.out, ← HL7.out])
                            rw [HT1.out] at HE3
                            have HNY := Lib.hid (show numC (κ (auM l)) (pt (auM l) 0 i (c + 1)) y = (len7 : Int) by rw [HY1.out, numC_meet hnidx, if_pos HYC.out, ← HL7.out])
                            have HLL := Lib.hid (show (iv (pt (auM l) 0 i c)).length = len7 by rw [iv_length]; exact HL7.out.symm)
                            have HSZ3 := Lib.hid (show N5 ≤ (wz.setCell ⟨N5, y, none⟩ (.int .i64 (len7 : Nat))).heap.size by simp [World.setCell]; exact HSZ2.out)
                            have hne9 : (⟨b9, o9 + t, none⟩ : Addr).block ≠ N5 := by
                              show b9 ≠ N5
                              have := HC9.out
                              omega
                            have k9' : (wz.setCell ⟨N5, y, none⟩ (.int .i64 (len7 : Nat))).cell? ⟨b9, o9 + t, none⟩ = some (.int .i64 (y : Nat)) := by
                              have := Below.heap_setCell wz ⟨N5, y, none⟩ (.int .i64 (len7 : Nat)) b9 hne9
                              simp only [World.cell?, this]
                              exact k9
                            have HK9' := Lib.hid k9'
                            clear hde hd7 hnidx k9'
                            go_wp2_with (first
                              | (at_builtin; refine wpList_push rfl _ _ 52 rfl 2 (.int .i64 0) 8 Tryd.underlying52 info2 (by decide) (by decide) N5 (.slice (some ⟨g7', 0, none⟩) len7 cap11) _ (.int .i64 t) (Own.get [_, _] _ HE3.out.own) HSZ3.out rfl (by rw [HLL.out]; omega) rfl _ rfl (by simp [World.setCell]) ?_; intro v5 w6 hp5; obtain ⟨a5, n5', cp5, rfl, HN5⟩ := hp5.lst.shape'; have HE5 := Lib.hid (HE3.out.pushInt [_, _] [] hp5); have HB7 := Lib.hid (HB3'.out.grown hp5.grow HSZ3.out (fun q hq => (Own.get [_, _] _ HE3.out.own).ge hq)); have k9b := (hp5.grow.cell HK9'.out (fun e => by have h8 : N5 ≤ b9 := (Own.get [_, _] _ HE3.out.own).ge e.symm; have h9 : b9 < N5 := HC9.out; omega)); clear hp5; have cN5 := (Own.get [_] _ HE5.out.own).cellOf (i := y) (by rw [tv_length]; exact hyj); rw [tv_get, HNY.out] at cN5; have hl5 : N5 < w6.heap.size := World.block_lt_of_cell? _ _ cN5; have hl59 : b9 < w6.heap.size := World.block_lt_of_cell? _ _ k9b; have HSZ5 := Lib.hid (show N5 ≤ w6.heap.size by omega))
                              | (at_builtin; refine wpList_push rfl _ _ 52 rfl 2 (.int .i64 0) 8 Tryd.underlying52 info2 (by decide) (by decide) N5 (.slice a14 c cap14) _ (.int .i64 len7) (Own.get [] _ HE5.out.own) HSZ5.out rfl (by rw [HRL.out]; omega) rfl _ rfl rfl ?_; intro v6 w7 hp6; obtain ⟨a6, n6, cp6, rfl, HN6⟩ := hp6.lst.shape'; have HE6 := Lib.hid (HE5.out.pushInt [] [_, _] hp6); have HB8 := Lib.hid (HB7.out.grown hp6.grow HSZ5.out (fun q hq => (Own.get [] _ HE5.out.own).ge hq)); clear hp6))
                            go_roundw
                            case rel =>
                              have h6 : n6 = c + 1 := by rw [HN6.out, List.length_append, HRL.out]; rfl
                              subst h6
                              have h7 : n5' = (pt (auM l) 0 i (c + 1)).length := by rw [HN5.out, HM1.out, List.length_append, List.length_append, HLL.out, HL7.out]; rfl
                              have h1 := HE6.out
                              rw [List.nil_append, show (((tidRow (auM l) 0 s).take c).map (Value.int .i64) ++ [Value.int .i64 (len7 : Int)]) = ((tidRow (auM l) 0 s).take (c + 1)).map (Value.int .i64) by rw [HY2.out, List.map_append, HDE.out]; rfl,
                                show iv (pt (auM l) 0 i c) ++ [Value.int .i64 (t : Int)] = iv (pt (auM l) 0 i (c + 1)) by rw [iv_push, HM1.out], h7] at h1
                              rw [h7]
                              exact ⟨c + 1, _, cp5, a6, cp6, hcl, by go_num, rfl, rfl, h1, HB8.out⟩
                            case measure => simp [intOf]; omega
                    · obtain rfl : c = wd := by omega
                      have HPE := Lib.hid (show pt (auM l) 0 i c = met (auM l) 0 (i + 1) from pt_end HIB.out (by rw [← HSS.out, HNX.out.1]; exact Nat.le_refl _))
                      have HTS := Lib.hid (show (tid (auM l) 0).take (i + 1) = (tid (auM l) 0).take i ++ [s] by
                        obtain ⟨h1, h2⟩ := met_get HFIT.out HIB.out
                        rw [take_succ_getD _ 0 i h1, List.getD, List.getElem?_eq_getElem h1, Option.getD_some, h2, ← HSS.out])
                      have HROW := Lib.hid (show (tidRow (auM l) 0 s).take c = tidRow (auM l) 0 s from List.take_of_length_le (by unfold tidRow; rw [List.length_map, HNX.out.1]; exact Nat.le_refl _))
                      obtain ⟨u, hu⟩ : ∃ u, u = (auM l).acc s := ⟨_, rfl⟩
                      have HU := Lib.hid hu
                      have hacc' : wr.cell? ⟨b2, o2 + s, none⟩ = some (.bool u) := by rw [hu]; exact hacc
                      have HTL := Lib.hid (show (tid (auM l) 0).length ≤ 800001 by have h1 : (tid (auM l) 0).length ≤ most (auM l) := HFEW.out (most (auM l)); have h2 := HMOST.out; omega)
                      have HAL := Lib.hid (show (((tid (auM l) 0).take i).map fun s => Value.bool ((auM l).acc s)).length ≤ 100000000 by rw [List.length_map, List.length_take]; have := HTL.out; omega)
                      have HIL := Lib.hid (show (items.map Prod.fst).length ≤ 100000000 by
                        have := congrArg List.length HI.out
                        rw [List.length_map, List.length_map, List.length_take] at this
                        have h9 := HTL.out
                        rw [List.length_map, this]; omega)
                      clear hca8 hacc hu
                      go_upto_region 26 with fail
                      go_cut [90] (fun v wx => v = .bool false ∧ ∃ m, wx = wr.drewN m)
                      case first =>
                        go_quiet (fail)
                        go_wp2_with fail
                        go_meet
                        exact ⟨rfl, _, rfl⟩
                      case rest =>
                        obtain ⟨rfl, m, rfl⟩ := hcut
                        have HE1 := Lib.hid (HE.out.drewN m)
                        have HB1 := Lib.hid (below_drewN HB3.out m)
                        have r2' : (wr.drewN m).cell? ⟨X, 2, none⟩ = _ := r2
                        have c7' : (wr.drewN m).cell? ⟨g7', i, none⟩ = _ := c7
                        have ha' : (wr.drewN m).cell? ⟨b2, o2 + s, none⟩ = _ := hacc'
                        have hlX' : X < (wr.drewN m).heap.size := hlX
                        clear r2 r3 c7 n4 hacc' hlX HE HB3
                        generalize wr.drewN m = wq at HE1 HB1 r2' c7' ha' hlX' ⊢
                        have k2 := HE1.out.c2
                        have hZl := HE1.out.lt
                        have hfz := cells_free HE1.out.at_ 2
                        have HSZ1 := Lib.hid (show N5 ≤ wq.heap.size by have := HE1.out.lt; have := HE1.out.obB; omega)
                        go_upto_region 33 with fail
                        have HED := Lib.hid HE1.out.drew
                        have HBD := Lib.hid HB1.out.drew
                        go_cut [] (fun wx => ∃ va', Bld wx N5 (Z + 1) k 0 va' vn ((.slice a14 c cap14, ((tidRow (auM l) 0 s).take c).map (Value.int .i64)) :: [(.slice (some ⟨N5, 0, none⟩) j j, tv j (numC (κ (auM l)) (pt (auM l) 0 i c))), (.slice (some ⟨g7', 0, none⟩) len7 cap11, iv (pt (auM l) 0 i c))]) items ((((tid (auM l) 0).take i).map fun s => .bool ((auM l).acc s)) ++ [.bool u]) ∧ Below N5 w5 wx)
                        case first =>
                          go_region_law (refine step_push rfl _ _ 22 rfl 4 (.bool false) 1 Tryd.underlying22 info4 (by decide) (by decide) N5 va _ (.bool u) HED.out.acc HSZ1.out rfl HAL.out (by simp [Act.eval, Act.put]) _ (by simp [Act.eval, Act.put]) rfl ?_; intro v4 w4 hp4; obtain ⟨a4, n4, cp4, rfl, HN4⟩ := hp4.lst.shape'; have o4 := HED.out.obAcc hp4; have q2 := (cells_get o4 2); have z2 := cells_free o4 2; have hl4 := (lt_of_block o4); have HE4 := Lib.hid (HED.out.pushAcc hp4); have HB4 := Lib.hid ((HBD.out.grown hp4.grow HSZ1.out (fun q hq => HED.out.acc.ge hq)).setCell (p := ⟨Z + 1, 2, none⟩) HED.out.obB (.slice a4 n4 cp4)); simp at q2; clear hp4 o4)
                          all_goals
                            go_wp2_with fail
                            go_meet
                            exact ⟨_, HE4.out, HB4.out⟩
                        case rest =>
                          obtain ⟨va4, hcb, hcb2⟩ := hcut
                          have HE4 := Lib.hid hcb
                          have HB4 := Lib.hid hcb2
                          have q3 := hcb.c3
                          have hl4 := hcb.lt
                          have z3 := cells_free hcb.at_ 3
                          have HSZ4 := Lib.hid (show N5 ≤ wc.heap.size by have := hcb.lt; have := hcb.obB; omega)
                          clear hcb hcb2
                          go_wp2_with (at_builtin; refine wpList_push rfl _ _ 23 rfl 52 (.slice none 0 0) 24 Tryd.underlying23 info54 (by decide) (by decide) N5 vn _ (.slice a14 c cap14) HE4.out.nxt HSZ4.out rfl HIL.out rfl _ rfl rfl ?_; intro v5 w6 hp5; obtain ⟨a5, n5, cp5, rfl, HN5⟩ := hp5.lst.shape'; have o5 := HE4.out.obNext hp5; have q5 := (cells_get o5 3); have z5 := cells_free o5 3; have hl5 := (lt_of_block o5); have HE5 := Lib.hid (HE4.out.pushNext [] [_, _] hp5); have HB5' := Lib.hid ((HB4.out.grown hp5.grow HSZ4.out (fun q hq => HE4.out.nxt.ge hq)).setCell (p := ⟨Z + 1, 3, none⟩) HE4.out.obB (.slice a5 n5 cp5)); simp at q5; clear hp5 o5)
                          go_roundw
                          case rel =>
                            have h1 := HE5.out
                            rw [List.nil_append] at h1
                            have h3 : [Value.bool u] = List.map (fun s => Value.bool ((auM l).acc s)) [s] := by rw [HU.out]; rfl
                            rw [h3, ← List.map_append, ← HTS.out, HPE.out] at h1
                            have h6 : len7 = (met (auM l) 0 (i + 1)).length := by rw [HL7.out, HPE.out]
                            rw [h6] at h1
                            rw [h6]
                            refine ⟨i + 1, _, cap11, _, _, _, ?_, ?_, rfl, h1, ?_, HB5'.out⟩
                            · have h2 := met_step (A := auM l) (x0 := 0) i; have h3 := HIB.out; omega
                            · go_num
                            · rw [HTS.out, List.map_append, List.map_append, HI.out, HROW.out]; rfl
                          case measure => simp [intOf]; omega
                · obtain rfl : i = len := by omega
                  obtain ⟨av, mv, cv1, rfl, -⟩ := HD.out.acc.shape'
                  obtain ⟨bv, pv, cv2, rfl, -⟩ := HD.out.nxt.shape'
                  have hME : met (auM l) 0 i = tid (auM l) 0 := met_end HFIT.out (Nat.le_of_eq HLEN.out.symm)
                  have HTI := Lib.hid (show (tid (auM l) 0).take i = tid (auM l) 0 from List.take_of_length_le (by rw [← hME]; exact Nat.le_of_eq HLEN.out.symm))
                  have HBU5 := Lib.hid (show Built wr N5 (.slice av mv cv1) (.slice bv pv cv2) (tidyAcc l) (tidyNext l) from Built.of_bld HD.out (by rw [HTI.out]; unfold tidyAcc tidAcc; rw [List.map_map]; rfl) (by rw [HI.out, HTI.out]; unfold tidyNext tidNext; rw [List.map_map]; rfl))
                  have hres : wr.heap[w.heap.size]? = some (.cells #[Value.int .i64 0, .int .i64 0, .slice none 0 0, .slice none 0 0] 27 (0, 0)) := by rw [HB2.out.block _ (by omega)]; exact HRES5.out
                  have HBF := Lib.hid (show Below w.heap.size w wr from HBW5.out.trans (HB2.out.mono (by omega)))
                  have y0 := cells_get HD.out.at_ 0
                  have y1 := cells_get HD.out.at_ 1
                  have y2 := cells_get HD.out.at_ 2
                  have y3 := cells_get HD.out.at_ 3
                  have r0 := cells_get hres 0
                  have r1 := cells_get hres 1
                  have r2 := cells_get hres 2
                  have r3 := cells_get hres 3
                  have f0 := cells_free hres 0
                  have f1 := cells_free hres 1
                  have f2 := cells_free hres 2
                  have f3 := cells_free hres 3
                  have hlZ := HD.out.lt
                  have hlS := lt_of_block hres
                  have p0 := cells_set hres 0 (.int .i64 k)
                  have p1 := cells_set p0 1 (.int .i64 0)
                  have p2 := cells_set p1 2 (.slice av mv cv1)
                  have p3 := cells_set p2 3 (.slice bv pv cv2)
                  simp at y0 y1 y2 y3 r0 r1 r2 r3 p3
                  have g0 := cells_get p3 0
                  have g1 := cells_get p3 1
                  have g2 := cells_get p3 2
                  have g3 := cells_get p3 3
                  simp at g0 g1 g2 g3
                  have HG := Lib.hid (And.intro g0 (And.intro g1 (And.intro g2 g3)))
                  clear p0 p1 p2 p3 g0 g1 g2 g3 hME hres
                  go_wp2_with fail
                  obtain ⟨g0, g1, g2, g3⟩ := HG.out
                  refine bodyPost_ret (v := .agg #[.int .i64 k, .int .i64 0, .slice av mv cv1, .slice bv pv cv2]) (by simp [results, Tryd.results14, go_sem, g0, g1, g2, g3]) rfl ⟨.slice av mv cv1, .slice bv pv cv2, rfl, ?_, ?_⟩
                  · exact (((((HBU5.out.setLow (a := ⟨w.heap.size, 0, none⟩) (by show w.heap.size < N5; omega) _).setLow (a := ⟨w.heap.size, 1, none⟩) (by show w.heap.size < N5; omega) _).setLow (a := ⟨w.heap.size, 2, none⟩) (by show w.heap.size < N5; omega) _).setLow (a := ⟨w.heap.size, 3, none⟩) (by show w.heap.size < N5; omega) _).mono (by omega))
                  · exact ((((HBF.out.setCell (p := ⟨w.heap.size, 0, none⟩) (Nat.le_refl _) _).setCell (p := ⟨w.heap.size, 1, none⟩) (Nat.le_refl _) _).setCell (p := ⟨w.heap.size, 2, none⟩) (Nat.le_refl _) _).setCell (p := ⟨w.heap.size, 3, none⟩) (Nat.le_refl _) _)
        · have hne : ((c1 : Int) == (c0 : Int)) = false := by simp; omega
          go_wp2_with fail
          go_roundw
          case rel => exact ⟨q + 1, a5, cp5, rfl, by rw [HC1.out], HI5.out, fun i hi => by
            by_cases e : i = q
            · subst e; rw [← HC0.out, ← HC1.out]; exact he
            · exact HQ.out i (by omega), HB5.out, fun _ => by obtain ⟨g, hg, -⟩ := HA5.out; exact ⟨g, hg⟩⟩
          case measure => simp [intOf]; omega
end Go.Proofs.YtaimealknkhfbaaDoor.SpecTidied
