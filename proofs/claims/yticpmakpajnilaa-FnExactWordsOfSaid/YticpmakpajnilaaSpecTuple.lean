
/- What the model's function that makes the words of columns hands back.
   Conditions: stated at each theorem. -/
import Derived.Test.YticpmakpajnilaaTupMath
import Derived.Test.YticpmakpajnilaaSpecCols
import Derived.Deep.RegionWith
namespace Go.Proofs.Yticpmakpajnilaa.SpecTuple
open Go.RowKit Mem Copy Rel Strs ColMath Columns TupMath MarkT

theorem digAny (c : Int) (t : Nat) (h0 : 0 ≤ c) (h1 : c ≤ 25) (ht : t ≤ 2) (w : World) : Calls Try.prog 55 #[.int .i64 c, .int .i64 t] w fun e w' => e = .returned (.int .i64 (dg c t)) ∧ w = w' := by
  have : t = 0 ∨ t = 1 ∨ t = 2 := by omega
  rcases this with rfl | rfl | rfl
  · exact digit0 c h0 h1 w
  · exact digit1 c h0 h1 w
  · exact digit2 c h0 h1 w

theorem ab0 (w : World) : (Instr.slice 9 (.string ⟨#[97, 98]⟩) (some (.int .i64 0)) (some (.int .i64 1)) none).run Try.prog w = .ok (.string ⟨#[97]⟩) w := by kernel_rfl
theorem ab1 (w : World) : (Instr.slice 9 (.string ⟨#[97, 98]⟩) (some (.int .i64 1)) (some (.int .i64 2)) none).run Try.prog w = .ok (.string ⟨#[98]⟩) w := by kernel_rfl
theorem ab (d : Int) (h0 : 0 ≤ d) (h2 : d < 2) (w : World) :
    (Instr.slice 9 (.string ⟨#[97, 98]⟩) (some (.int .i64 d)) (some (.int .i64 (d + 1))) none).run Try.prog w = .ok (.string (strOfNums [97 + d])) w := by
  have : d = 0 ∨ d = 1 := by omega
  rcases this with rfl | rfl
  · exact ab0 w
  · exact ab1 w

set_option maxHeartbeats 2000000 in
theorem specTuple (n : Nat) (cs : List Int) (va : Value) (w : World) (B : Nat) (hn : n ≤ 3) (ha : Ints w B va cs) (hB : B ≤ w.heap.size) (hl : cs.length ≤ 40) (hc : ∀ i, i < cs.length → 0 ≤ cs.getD i 0 ∧ cs.getD i 0 ≤ 25) :
    Calls Try.prog 77 #[.int .i64 n, va] w fun e w' => e = .returned (.tuple #[.slice (some ⟨w.heap.size, 0, none⟩) n n, .bool (rightB n cs)]) ∧ (rightB n cs = true → w'.rowIs w.heap.size 9 n (fun u => .string (strOfNums (wd cs u)))) ∧ Below w.heap.size w w' := by
  obtain ⟨a, b, off, cap, rfl, hma, haa, hca⟩ := ha
  obtain ⟨m, hm⟩ : ∃ m, m = cs.length := ⟨_, rfl⟩
  rw [← hm] at hma hca haa hl hc
  rw [← hm]
  have HM := Lib.hid hm
  clear hm hma
  have hmk := run_make_row' (P := Try.prog) 39 9 (.string ⟨#[]⟩) 16 Try.underlying39 info9 rfl .i64 .i64 n (by omega) (by omega)
  go_enter Try.func77, Try.ntmps77
  go_wp2
  go_loopw [7, 8, 9] (fun i _ _ wr => ∃ k : Nat, k ≤ m ∧ i = .int .i64 k ∧ wr.rowIs w.heap.size 9 n (fun u => .string (strOfNums (wd (cs.take k) u))) ∧ Below w.heap.size w wr ∧ (∀ i t, i < k → t < n → stepOk cs i t = true)) (fun i _ _ _ => m - (intOf i).toNat)
  case atStart =>
    exact ⟨0, Nat.zero_le _, rfl, (World.rowIs_made _ _ _ _).congr fun i hi => by simp [wd, strOfNums], (Below.refl _ _).alloc (Nat.le_refl _) _, fun i t h => absurd h (Nat.not_lt_zero i)⟩
  case round =>
    obtain ⟨k, hk, rfl, hrow, hbel, hst⟩ := hrel
    by_cases hlt : k < m
    · obtain rfl := (haa (by omega)).1
      have hbB := (haa (by omega)).2
      have hcA := (hca k hlt)
      have hck := hc k hlt
      obtain ⟨x, hx⟩ : ∃ x, x = cs.getD k 0 := ⟨_, rfl⟩
      rw [← hx] at hcA hck
      have HB := Lib.hid hbel
      have HR := Lib.hid hrow
      have HST := Lib.hid hst
      have HX := Lib.hid hx
      clear hbel hrow hst hx hca haa hmk hc
      go_wp2
      go_loopw [8, 9] (fun t _ wr => ∃ u : Nat, u ≤ n ∧ t = .int .i64 u ∧ wr.rowIs w.heap.size 9 n (fun j => .string (strOfNums (wd (cs.take (if j < u then k + 1 else k)) j))) ∧ Below w.heap.size w wr ∧ (∀ j, j < u → stepOk cs k j = true)) (fun t _ _ => n - (intOf t).toNat)
      case atStart => exact ⟨0, Nat.zero_le _, rfl, HR.out.congr fun j hj => by rw [if_neg (Nat.not_lt_zero j)], HB.out, fun j h => absurd h (Nat.not_lt_zero j)⟩
      case round =>
        obtain ⟨u, hu, rfl, hrow, hbel, hst⟩ := hrel
        by_cases hlu : u < n
        · have cA := (hbel.cell (p := ⟨b, off + k, none⟩) (by show b < _; omega)).trans hcA
          have cN := hrow.cell hlu
          have fN := hrow.frozen u
          rw [if_neg (Nat.lt_irrefl u)] at cN
          have HDG := Lib.hid (fun W => digAny x u hck.1 hck.2 (by omega) W)
          have HR' := Lib.hid hrow
          have HB' := Lib.hid hbel
          have HS' := Lib.hid hst
          have hkm : k < cs.length := by rw [← HM.out]; exact hlt
          obtain ⟨d, hd⟩ : ∃ d, d = dg x u := ⟨_, rfl⟩
          have HD := Lib.hid hd
          rw [← hd] at HDG
          obtain ⟨y, hy⟩ : ∃ y, y = wd (cs.take k) u := ⟨_, rfl⟩
          rw [← hy] at cN
          have HY := Lib.hid hy
          have hyl : y.length ≤ 40 := by rw [hy]; have := wd_len (cs.take k) u; rw [List.length_take] at this; omega
          have hys : (strOfNums y).size = y.length := strOfNums_size _
          have hd3 : d = 0 ∨ d = 1 ∨ d = 2 := by rw [hd]; exact dg_range x u
          clear hcA hrow hbel hst hd hy
          go_wp2_with fail
          refine (HDG.out _).mono ?_
          rintro e w' ⟨rfl, rfl⟩
          by_cases h2 : d = 2
          · subst h2
            go_wp2_with fail
            go_roundw
            case rel =>
              refine ⟨u + 1, hlu, by go_num, HR'.out.congr fun j hj => ?_, HB'.out, fun j hj => ?_⟩
              · by_cases e : j = u
                · subst e
                  rw [if_neg (Nat.lt_irrefl j), if_pos (Nat.lt_succ_self j), wd_pad hkm (by rw [← HX.out, ← HD.out])]
                · have h1 : (j < u + 1) = (j < u) := by apply propext; constructor <;> intro h <;> omega
                  simp only [h1]
              · by_cases e : j = u
                · subst e; unfold stepOk; rw [← HX.out, ← HD.out]; rfl
                · exact HS'.out j (by omega)
            case measure => simp [intOf]; omega
          · have hd0 : 0 ≤ d := by omega
            have hd1 : d < 2 := by omega
            have hne : (d == 2) = false := by simp [h2]
            by_cases hlk : y.length < k
            · have HBAD := Lib.hid (right_bad (n := n) hkm hlu (by unfold stepOk; rw [← HX.out, ← HD.out, ← HY.out]; simp [hlk, h2]))
              go_wp2_with fail
              go_ret2
              exact ⟨by rw [HBAD.out]; rfl, fun h => (by rw [HBAD.out] at h; cases h), HB'.out⟩
            · have h1s : (strOfNums [97 + d]).size = 1 := by rw [strOfNums_size]; rfl
              have hsum : (strOfNums y).size + (strOfNums [97 + d]).size ≤ 9223372036854775807 := by omega
              have hwr : IntKind.i64.wrap (d + 1) = d + 1 := by rw [IntKind.wrap_i64]; omega
              have hab := fun W => ab d hd0 hd1 W
              go_wp2_with fail
              go_region_with fail
              all_goals
                go_wp2_with fail
                go_roundw
                case rel =>
                  refine ⟨u + 1, hlu, by go_num, (World.rowIs.set (w := wr.drew) HR'.out u _).congr fun j hj => ?_, HB'.out.drew.setCell (Nat.le_refl _) _, fun j hj => ?_⟩
                  · by_cases e : j = u
                    · subst e
                      rw [if_pos rfl, if_pos (Nat.lt_succ_self j), wd_letter hkm (by rw [← HX.out, ← HD.out]; exact h2), ← HY.out, ← HX.out, ← HD.out, ← strs_add]
                    · have h1 : (j < u + 1) = (j < u) := by apply propext; constructor <;> intro h <;> omega
                      simp only [if_neg e, h1]
                  · by_cases e : j = u
                    · subst e; unfold stepOk; rw [← HX.out, ← HD.out, ← HY.out]; simp [hlk]
                    · exact HS'.out j (by omega)
                case measure => simp [intOf]; omega
        · obtain rfl : u = n := by omega
          have HR' := Lib.hid (hrow.congr (g := fun j => .string (strOfNums (wd (cs.take (k + 1)) j))) fun j hj => by rw [if_pos hj])
          have HB' := Lib.hid hbel
          have HS' := Lib.hid hst
          clear hrow hbel hst hcA
          go_wp2_with fail
          go_roundw
          case rel =>
            refine ⟨k + 1, hlt, by go_num, HR'.out, HB'.out, fun i t hi ht => ?_⟩
            by_cases e : i = k
            · subst e; exact HS'.out t ht
            · exact HST.out i t (by omega) ht
          case measure => simp [intOf]; omega
    · obtain rfl : k = m := by omega
      have HG := Lib.hid (show rightB n cs = true from right_good (fun i t hi ht => hst i t (by rw [HM.out]; exact hi) ht))
      have HR := Lib.hid hrow
      have HB := Lib.hid hbel
      clear hrow hbel hst hca haa hmk hc
      go_wp2
      go_ret2
      exact ⟨by rw [HG.out]; rfl, fun _ => HR.out.congr fun j hj => by rw [HM.out, List.take_length], HB.out⟩
end Go.Proofs.Yticpmakpajnilaa.SpecTuple
