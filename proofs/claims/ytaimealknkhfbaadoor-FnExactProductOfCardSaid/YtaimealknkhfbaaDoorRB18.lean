
/- The pads of columns, as the program has them: a row of numbers; and whether a column may follow.
   Conditions: one to three tapes. -/
import Derived.Test.YtaimealknkhfbaaDoorRB9
import Derived.Test.YtaimealknkhfbaaDoorRB2
import Derived.Test.YtaimealknkhfbaaDoorRB4
import Derived.Deep.RegionWith
namespace Go.Proofs.YtaimealknkhfbaaDoor.Pads
set_option linter.unusedVariables false
set_option linter.unusedSimpArgs false
open Go.RowKit Mem Copy Rel Columns ColMath Numbers TidyRight

theorem cell_other {w : World} {p q : Addr} {u : Value} (h : q.block ≠ p.block) : (w.setCell p u).cell? q = w.cell? q := by
  have := Below.heap_setCell w p u q.block h
  simp only [World.cell?, this]
theorem pd_zero (c : Nat) : pd 0 c = 0 := rfl
theorem pd_or : ∀ t, t < 3 → ∀ c, c < 26 → c / 3 ^ t % 3 = 2 → bits BinOp.or IntKind.i64 ((pd t c : Nat) : Int) ((2 ^ t : Nat) : Int) = ((pd (t + 1) c : Nat) : Int) := by decide +kernel
theorem pd_same : ∀ t, t < 3 → ∀ c, c < 26 → ¬ c / 3 ^ t % 3 = 2 → pd (t + 1) c = pd t c := by decide +kernel
theorem fol_bits : ∀ e, e < 8 → ∀ p, p < 8 → (bits BinOp.andNot IntKind.i64 ((e : Nat) : Int) ((p : Nat) : Int) == 0) = fol e p := by decide +kernel

theorem letT_pad (k c t : Nat) (ht : t < k) (h3 : k ≤ 3) : (letT k (c : Int) t = 35) ↔ c / 3 ^ t % 3 = 2 := by
  have e : ((c : Int) / pow3 t % 3) = ((c / 3 ^ t % 3 : Nat) : Int) := by
    have : t = 0 ∨ t = 1 ∨ t = 2 := by omega
    rcases this with rfl | rfl | rfl <;> simp [pow3]
  unfold letT
  rw [if_pos ht, e]
  have : c / 3 ^ t % 3 = 0 ∨ c / 3 ^ t % 3 = 1 ∨ c / 3 ^ t % 3 = 2 := by omega
  rcases this with h | h | h <;> rw [h] <;> simp [letA]

theorem mayFollow (e p : Nat) (he : e < 8) (hp : p < 8) (w : World) :
    Calls Tryd.prog 78 #[.int .i64 e, .int .i64 p] w fun x w' => x = .returned (.bool (fol e p)) ∧ w = w' := by
  go_enter Tryd.func78, Tryd.ntmps78
  go_wp2
  go_ret
  exact ⟨congrArg (fun b => Ending.returned (.bool b)) (fol_bits e he p hp), rfl⟩

set_option maxHeartbeats 4000000 in
theorem pads (k : Nat) (h1 : 1 ≤ k) (h3 : k ≤ 3) (w : World) :
    Calls Tryd.prog 76 #[.int .i64 k] w fun e w' => e = .returned (.slice (some ⟨w.heap.size, 0, none⟩) (wide k) (wide k)) ∧ w'.rowIs w.heap.size 2 (wide k) (fun c => .int .i64 (pd k c : Nat)) ∧ Below w.heap.size w w' := by
  have hcnt := countAny (k : Int) (by omega) (by omega)
  have hwk : widthOf (k : Int) = ((wide k : Nat) : Int) := by
    have : k = 1 ∨ k = 2 ∨ k = 3 := by omega
    rcases this with rfl | rfl | rfl <;> rfl
  rw [hwk] at hcnt
  have hw26 : wide k ≤ 26 := by have := wide_cases h1 h3; omega
  have HL := Lib.hid (fun (c : Nat) (hc : c < 26) W => lettersAny k h1 h3 (c : Int) (by omega) (by omega) W)
  obtain ⟨n, hn⟩ : ∃ n, n = wide k := ⟨_, rfl⟩
  rw [← hn] at hcnt hw26
  rw [← hn]
  have HC := Lib.hid hcnt
  have hmk := run_make_row' (P := Tryd.prog) 52 2 (.int .i64 0) 8 Tryd.underlying52 info2 rfl .i64 .i64 n (by omega) (by omega)
  clear hcnt hwk hn
  go_enter Tryd.func76, Tryd.ntmps76
  go_wp2_with (go_at_call 38; refine (HC.out _).mono ?_; rintro e w' ⟨rfl, rfl⟩)
  go_loopw [4, 5, 6, 12, 19] (fun _ _ _ i _ wr => ∃ j : Nat, j ≤ n ∧ i = .int .i64 j ∧ wr.rowIs w.heap.size 2 n (fun c => .int .i64 (if c < j then ((pd k c : Nat) : Int) else 0)) ∧ Below w.heap.size w wr) (fun _ _ _ i _ _ => n - (intOf i).toNat)
  case atStart => exact ⟨0, Nat.zero_le _, rfl, (World.rowIs_made _ _ _ _).congr fun i hi => by rw [if_neg (Nat.not_lt_zero i)], (Below.refl _ _).alloc (Nat.le_refl _) _⟩
  case round =>
    obtain ⟨j, hj, rfl, hrow, hbel⟩ := hrel
    have HR := Lib.hid hrow
    have HB := Lib.hid hbel
    clear hmk hrow hbel
    by_cases hlt : j < n
    · have HLJ := Lib.hid (HL.out j (by omega))
      go_wp2_with fail
      refine (HLJ.out _).mono ?_
      rintro e w1 ⟨rfl, hb⟩
      have HB1 := Lib.hid (base_step HB.out hb)
      have HR1 := Lib.hid (rowIs_below HR.out hb HR.out.lt)
      clear hb
      obtain ⟨q, hq⟩ : ∃ q, q = w1.heap.size := ⟨_, rfl⟩
      have hMq : w.heap.size < q := by rw [hq]; exact HR1.out.lt
      unfold lettersV
      have HQ := Lib.hid (show ∀ i, i < 3 → (w1.alloc (.cells #[.int .u8 (letT k j 0), .int .u8 (letT k j 1), .int .u8 (letT k j 2)] 75)).cell? ⟨q, i, none⟩ = some (.int .u8 (letT k j i)) from fun i hi => by
        rw [hq, World.cell?_alloc_mark]
        have : i = 0 ∨ i = 1 ∨ i = 2 := by omega
        rcases this with rfl | rfl | rfl <;> rfl)
      have HR2 := Lib.hid (show (w1.alloc (.cells #[.int .u8 (letT k j 0), .int .u8 (letT k j 1), .int .u8 (letT k j 2)] 75)).rowIs w.heap.size 2 n (fun c => .int .i64 (if c = j then ((pd 0 j : Nat) : Int) else if c < j then ((pd k c : Nat) : Int) else 0)) from
        (rowIs_below HR1.out ((Below.refl _ _).alloc (Nat.le_refl _) _) HR1.out.lt).congr fun i hi => by
          by_cases e : i = j
          · rw [if_pos e, if_neg (by omega), pd_zero]; rfl
          · rw [if_neg e])
      have HB2 := Lib.hid (show Below w.heap.size w (w1.alloc (.cells #[.int .u8 (letT k j 0), .int .u8 (letT k j 1), .int .u8 (letT k j 2)] 75)) from HB1.out.alloc HB1.out.size _)
      go_wp2_with fail
      rw [← hq]
      go_loopw [6, 19] (fun _ t wr => ∃ u : Nat, u ≤ k ∧ t = .int .i64 u ∧ wr.rowIs w.heap.size 2 n (fun c => .int .i64 (if c = j then ((pd u j : Nat) : Int) else if c < j then ((pd k c : Nat) : Int) else 0)) ∧ Below w.heap.size w wr ∧ ∀ i, i < 3 → wr.cell? ⟨q, i, none⟩ = some (.int .u8 (letT k j i))) (fun _ t _ => k - (intOf t).toNat)
      case atStart => exact ⟨0, Nat.zero_le _, rfl, HR2.out, HB2.out, HQ.out⟩
      case round =>
        obtain ⟨u, hu, rfl, hrow, hbel, hlet⟩ := hrel
        have HR3 := Lib.hid hrow
        have HB3 := Lib.hid hbel
        have HQ3 := Lib.hid hlet
        clear hbel HQ HR2 HB2 HR1 HB1 HLJ hq
        by_cases hlu : u < k
        · have cL := hlet u (by omega)
          have cN := hrow.cell (show j < n from hlt)
          have fN := hrow.frozen j
          rw [if_pos rfl] at cN
          have HPAD := Lib.hid (letT_pad k j u hlu h3)
          have HOR := Lib.hid (pd_or u (by omega) j (by omega))
          have HSM := Lib.hid (pd_same u (by omega) j (by omega))
          obtain ⟨l, hl⟩ : ∃ l, l = letT k (j : Int) u := ⟨_, rfl⟩
          rw [← hl] at cL HPAD
          obtain ⟨x, hx⟩ : ∃ x, x = pd u j := ⟨_, rfl⟩
          rw [← hx] at cN HOR HSM
          have HLU := Lib.hid hlu
          have HXX := Lib.hid hx
          clear hl hx hlet hrow
          by_cases h2 : j / 3 ^ u % 3 = 2
          · obtain rfl : l = 35 := HPAD.out.2 h2
            have hor := HOR.out h2
            have HX := Lib.hid hor
            clear h2 HPAD hor
            have h3 : u = 0 ∨ u = 1 ∨ u = 2 := by omega
            rcases h3 with rfl | rfl | rfl
            all_goals
              have hor := HX.out
              simp at hor
              go_wp2_with fail
              go_region_with fail
              all_goals
                go_wp2_with fail
                go_roundw
                case rel =>
                  refine ⟨_, HLU.out, by go_num, (World.rowIs.set (w := wr.drew) HR3.out j _).congr fun i hi => ?_, HB3.out.drew.setCell (Nat.le_refl _) _, fun i hi => ?_⟩
                  · by_cases e : i = j
                    · subst e
                      rw [if_pos rfl, if_pos rfl]
                      exact congrArg (Value.int .i64) HX.out
                    · simp only [if_neg e]
                  · exact (cell_other (by show q ≠ w.heap.size; omega)).trans (HQ3.out i hi)
                case measure => simp [intOf]; omega
          · have hne : (l == 35) = false := by simp; exact fun h => h2 (HPAD.out.1 h)
            have HX := Lib.hid (HSM.out h2)
            clear HOR
            go_wp2_with fail
            go_roundw
            case rel => exact ⟨u + 1, HLU.out, by go_num, by rw [HX.out, HXX.out]; exact HR3.out, HB3.out, HQ3.out⟩
            case measure => simp [intOf]; omega
        · obtain rfl : u = k := by omega
          clear hlet hrow
          go_wp2_with fail
          go_roundw
          case rel =>
            refine ⟨j + 1, hlt, by go_num, HR3.out.congr fun i hi => ?_, HB3.out⟩
            by_cases e : i = j
            · subst e; rw [if_pos rfl, if_pos (Nat.lt_succ_self i)]
            · have h1 : (i < j + 1) = (i < j) := by apply propext; constructor <;> intro h <;> omega
              simp only [if_neg e, h1]
          case measure => simp [intOf]; omega
    · obtain rfl : j = n := by omega
      go_wp2_with fail
      go_ret
      exact ⟨rfl, HR.out.congr fun i hi => by rw [if_pos hi], HB.out⟩
end Go.Proofs.YtaimealknkhfbaaDoor.Pads
