
/- What the program's WordsOf answers: a row of its own, and a code.
   Conditions: the columns are read as XMem's text says. -/
import Derived.Test.YticpmakpajnilaaImplSpell
import Derived.Test.YticpmakpajnilaaSpecWords
namespace Go.Proofs.Yticpmakpajnilaa.WordsOf
set_option linter.unusedVariables false
open Go.RowKit Mem Copy Rel Strs Words ColMath Columns TupMath SpecTuple MarkT MarkRow SpecWords TidyRight

theorem width_nat (n : Nat) (h1 : 1 ≤ n) (h3 : n ≤ 3) : widthOf (n : Int) = ((wide n : Nat) : Int) := by
  have : n = 1 ∨ n = 2 ∨ n = 3 := by omega
  rcases this with rfl | rfl | rfl <;> rfl

/-- Columns in range are numbers from 0 on. -/
theorem nats {cs : List Int} {n : Nat} (h1 : 1 ≤ n) (h3 : n ≤ 3) (h : cs.all (fun c => inB c 0 (widthOf (n : Int) - 1)) = true) : ∃ ds : List Nat, cs = ds.map Int.ofNat ∧ ∀ i, i < ds.length → ds.getD i 0 < wide n := by
  rw [width_nat n h1 h3] at h
  have hw := wide_cases h1 h3
  induction cs with
  | nil => exact ⟨[], rfl, fun i hi => absurd hi (Nat.not_lt_zero i)⟩
  | cons c r ih =>
    rw [List.all_cons, Bool.and_eq_true] at h
    obtain ⟨ds, rfl, hd⟩ := ih h.2
    have hc := of_decide_eq_true (show decide (0 ≤ c ∧ c ≤ ((wide n : Nat) : Int) - 1) = true from h.1)
    refine ⟨c.toNat :: ds, ?_, fun i hi => ?_⟩
    · rw [List.map_cons, show Int.ofNat c.toNat = c from Int.toNat_of_nonneg hc.1]
    · cases i with
      | zero => show c.toNat < wide n; omega
      | succ i => simpa [List.getD] using hd i (by simpa using hi)

set_option maxRecDepth 8000 in
set_option maxHeartbeats 4000000 in
theorem implWordsOf (t : Int) (cs : List Int) (va : Value) (w : World) (B : Nat) (ha : Ints w B va cs) (hB : B ≤ w.heap.size) :
    Calls Try.prog 41 #[.int .i64 t, va] w fun e w' => ∃ v, e = .returned (.tuple #[v, .int .i64 (wordsC t cs)]) ∧ FreshS w.heap.size w' v (wordsL t cs) ∧ Below w.heap.size w w' := by
  have HA := Lib.hid ha
  have HBB := Lib.hid hB
  obtain ⟨a, b, off, cap, rfl, hma, haa, hca⟩ := ha
  unfold maxLen at hma
  clear hB
  obtain ⟨m, hm⟩ : ∃ m, m = cs.length := ⟨_, rfl⟩
  rw [← hm] at hma HA hca haa
  rw [← hm]
  have HM := Lib.hid hm
  clear hm
  by_cases ht : 1 ≤ t ∧ t ≤ 3
  · have h1 : inB t 1 3 = true := by unfold inB; simp; omega
    have d1 : decide (1 ≤ t ∧ t ≤ 3) = true := decide_eq_true ht
    have HT := Lib.hid ht
    have hwd := Columns.countAny t ht.1 ht.2
    have hw0 := (Valid.width_bounds t).1
    have hw1 := (Valid.width_bounds t).2
    by_cases hl : m ≤ 40
    · have HH1 := Lib.hid h1
      clear h1
      go_enter Try.func41, Try.ntmps41
      have HW := Lib.hid hwd
      clear hwd ht
      go_wp2_with (go_at_call 56; refine (validTapes _ _).mono ?_; rw [d1]; rintro e w' ⟨rfl, rfl⟩)
      go_loop [7, 18] (fun _ i => ∃ k : Nat, k ≤ m ∧ i = .int .i64 k ∧ (cs.take k).all (fun c => inB c 0 (widthOf t - 1)) = true) (fun _ i => m - (intOf i).toNat)
      case atStart => exact ⟨0, Nat.zero_le _, rfl, rfl⟩
      case round =>
        obtain ⟨k, hk, rfl, hg⟩ := hrel
        have HG := Lib.hid hg
        clear hg
        by_cases hlt : k < m
        · obtain rfl := (haa (by omega)).1
          have cA := hca k hlt
          obtain ⟨x, hx⟩ : ∃ x, x = cs.getD k 0 := ⟨_, rfl⟩
          rw [← hx] at cA
          have HX := Lib.hid hx
          have hkm : k < cs.length := by rw [← HM.out]; exact hlt
          have HKM := Lib.hid hkm
          clear hx hca haa hkm
          by_cases hx0 : x < 0
          · have HO := Lib.hid (inOk_c (t := t) HKM.out (by rw [← HX.out]; unfold inB; simp; omega))
            have HC := Lib.hid (out_C HO.out)
            have HL := Lib.hid (out_L HO.out)
            have dx : decide (x < 0) = true := decide_eq_true hx0
            go_wp2_with fail
            go_ret2
            exact ⟨_, by rw [HC.out]; rfl, by rw [HL.out]; exact freshS_none _ _ _ _, Below.refl _ _⟩
          · have dx : decide (x < 0) = false := decide_eq_false hx0
            obtain ⟨y, hy⟩ : ∃ y, y = widthOf t := ⟨_, rfl⟩
            rw [← hy] at HW hw0 hw1
            have HY := Lib.hid hy
            by_cases hx1 : y ≤ x
            · have HO := Lib.hid (inOk_c (t := t) HKM.out (by rw [← HX.out, ← HY.out]; unfold inB; simp; omega))
              have HC := Lib.hid (out_C HO.out)
              have HL := Lib.hid (out_L HO.out)
              have dy : decide (y ≤ x) = true := decide_eq_true hx1
              clear hy
              go_wp2_with (go_at_call 57; refine (HW.out _).mono ?_; rintro e w' ⟨rfl, rfl⟩)
              go_ret2
              exact ⟨_, by rw [HC.out]; rfl, by rw [HL.out]; exact freshS_none _ _ _ _, Below.refl _ _⟩
            · have HG' := Lib.hid (all_take_succ cs 0 (fun c => inB c 0 (widthOf t - 1)) k HKM.out HG.out (by rw [← HX.out, ← HY.out]; unfold inB; simp; omega))
              have dy : decide (y ≤ x) = false := decide_eq_false hx1
              clear hy
              go_wp2_with (go_at_call 57; refine (HW.out _).mono ?_; rintro e w' ⟨rfl, rfl⟩)
              go_round
              case rel => exact ⟨k + 1, hlt, by go_num, HG'.out⟩
              case measure => simp [intOf]; omega
        · obtain rfl : k = m := by omega
          have hall := all_end cs (fun c => inB c 0 (widthOf t - 1)) k (by rw [← HM.out]; omega) HG.out
          have HO := Lib.hid (inOk_yes HH1.out (by rw [← HM.out]; exact hl) hall)
          obtain ⟨n, rfl⟩ : ∃ n : Nat, t = n := ⟨t.toNat, by have := HT.out; omega⟩
          obtain ⟨ds, rfl, hds⟩ := nats (by have := HT.out; omega) (by have := HT.out; omega) hall
          have hnn : (n : Int).toNat = n := by omega
          have HAR := Lib.hid (fun W (h : Ints W B (.slice a k cap) (ds.map Int.ofNat)) (hb : B ≤ W.heap.size) => ImplWords.areRight n ds (.slice a k cap) W B (by have := HT.out; omega) (by have := HT.out; omega) h hb hds)
          have HWO := Lib.hid (fun W (h : Ints W B (.slice a k cap) (ds.map Int.ofNat)) (hb : B ≤ W.heap.size) => ImplSpell.wordsOf n ds (.slice a k cap) W B (by have := HT.out; omega) (by have := HT.out; omega) h hb hds (by have := HM.out; rw [List.length_map] at this; omega))
          clear hca haa hall hds
          cases hr : rightB n (ds.map Int.ofNat) with
          | true =>
            have HC := Lib.hid (yes_C HO.out (by rw [hnn]; exact hr))
            have HL := Lib.hid (yes_L HO.out (by rw [hnn]; exact hr))
            rw [hnn] at HL
            rw [hr] at HAR
            clear hr hnn
            go_wp2_with (first | (go_at_call 78; refine (HAR.out _ HA.out HBB.out).mono ?_; rintro e w3 ⟨rfl, hb⟩; have HB3 := Lib.hid hb; have HA3 := Lib.hid (HA.out.below hb HBB.out); have HC3 := Lib.hid (Nat.le_trans HBB.out hb.size); clear hb) | (go_at_call 79; refine (HWO.out _ HA3.out HC3.out).mono ?_; rintro e w4 ⟨N, hN, rfl, hrow, hb⟩; have HR4 := Lib.hid hrow; have HB4 := Lib.hid (base_step HB3.out hb); have HN4 := Lib.hid (Nat.le_trans HB3.out.size hN); clear hrow hb hN))
            go_ret2
            exact ⟨_, by rw [HC.out]; rfl, by rw [HL.out]; exact (freshS_row HR4.out).mono HN4.out, HB4.out⟩
          | false =>
            have HC := Lib.hid (bad_C HO.out (by rw [hnn]; exact hr))
            have HL := Lib.hid (bad_L (t := (n : Int)) (cs := ds.map Int.ofNat) (by rw [hnn]; exact hr))
            rw [hr] at HAR
            clear hr hnn
            go_wp2_with (go_at_call 78; refine (HAR.out _ HA.out HBB.out).mono ?_; rintro e w3 ⟨rfl, hb⟩; have HB3 := Lib.hid hb; clear hb)
            go_ret2
            exact ⟨_, by rw [HC.out]; rfl, by rw [HL.out]; exact freshS_none _ _ _ _, HB3.out⟩
    · have HC := Lib.hid (out_C (t := t) (inOk_long (t := t) (cs := cs) (by rw [← HM.out]; exact hl)))
      have HL := Lib.hid (out_L (t := t) (inOk_long (t := t) (cs := cs) (by rw [← HM.out]; exact hl)))
      rw [HC.out, HL.out]
      clear hca haa hwd
      go_enter Try.func41, Try.ntmps41
      go_wp2_with (go_at_call 56; refine (validTapes _ _).mono ?_; rw [d1]; rintro e w' ⟨rfl, rfl⟩)
      go_ret2
      exact ⟨_, rfl, freshS_none _ _ _ _, Below.refl _ _⟩
  · have h1 : inB t 1 3 = false := by unfold inB; simp; omega
    have d1 : decide (1 ≤ t ∧ t ≤ 3) = false := decide_eq_false ht
    have HC := Lib.hid (out_C (t := t) (inOk_t (cs := cs) h1))
    have HL := Lib.hid (out_L (t := t) (inOk_t (cs := cs) h1))
    rw [HC.out, HL.out]
    clear hca haa
    go_enter Try.func41, Try.ntmps41
    go_wp2_with (go_at_call 56; refine (validTapes _ _).mono ?_; rw [d1]; rintro e w' ⟨rfl, rfl⟩)
    go_ret2
    exact ⟨_, rfl, freshS_none _ _ _ _, Below.refl _ _⟩
end Go.Proofs.Yticpmakpajnilaa.WordsOf
