
/- What the model's function that makes the columns of a tuple hands back: a new row.
   Conditions: the tuple has at most three words, each of them one. -/
import Derived.Test.YticpmakpajnilaaWords
import Derived.Test.YticpmakpajnilaaColMath
import Derived.Test.YticpmakpajnilaaColumns
namespace Go.Proofs.Yticpmakpajnilaa.SpecCols
open Go.RowKit Mem Copy Rel Strs Word WordMath Words ColMath Columns

theorem powAny (k : Nat) (h : k ≤ 3) (w : World) : Calls Try.prog 86 #[.int .i64 k] w fun e w' => e = .returned (.int .i64 (pow3 k)) ∧ w = w' := by
  have : k = 0 ∨ k = 1 ∨ k = 2 ∨ k = 3 := by omega
  rcases this with rfl | rfl | rfl | rfl
  · exact power0 w
  · exact power1 w
  · exact power2 w
  · exact power3 w

set_option maxHeartbeats 2000000 in
theorem specCols (ss : List ByteArray) (va : Value) (w : World) (B : Nat) (ha : StrsAt w B va ss) (hB : B ≤ w.heap.size) (hw : ss.all wordB = true) (h3 : ss.length ≤ 3) :
    Calls Try.prog 72 #[va] w fun e w' => ∃ v, e = .returned v ∧ w'.ownsRow w.heap.size 2 1 v (cols ss).length ((cols ss).map (Value.int .i64)) ∧ Below w.heap.size w w' := by
  obtain ⟨⟨a, b, off, cap, rfl, hma, haa, hca⟩, -⟩ := ha
  obtain ⟨n, hn⟩ : ∃ n, n = ss.length := ⟨_, rfl⟩
  rw [← hn] at hma hca haa h3
  rw [← hn]
  unfold maxLen at hma
  have HN := Lib.hid hn
  have HW := Lib.hid hw
  clear hn hw hma
  obtain ⟨i0, hi, hz0, hz1, hz2⟩ := info_parts info2
  go_enter Try.func72, Try.ntmps72
  go_wp2
  have HWL := Lib.hid (width_le ss HW.out)
  go_loopw [3, 4, 5, 6, 7, 8] (fun v i _ _ _ _ wr => ∃ m : Nat, m ≤ width ss ∧ i = .int .i64 m ∧ wr.ownsRow w.heap.size 2 1 v m ((colsTo ss m).map (Value.int .i64)) ∧ Below w.heap.size w wr) (fun _ i _ _ _ _ _ => 41 - (intOf i).toNat)
  case atStart =>
    exact ⟨0, Nat.zero_le _, rfl, World.ownsRow_lit (base := w.heap.size) (e := 2) (size := 1) w #[] 0 (Nat.le_refl _) (Nat.zero_le _) rfl, (Below.refl _ _).alloc (Nat.le_refl _) _⟩
  case round =>
    obtain ⟨m, hm, rfl, hown, hbel⟩ := hrel
    have HO := Lib.hid hown
    have HB := Lib.hid hbel
    have hm40 : m ≤ 40 := Nat.le_trans hm HWL.out
    have HM := Lib.hid hm
    have hcw : ∀ i, i < n → wr.cell? ⟨b, off + i, none⟩ = some (.string (ss.getD i ByteArray.empty)) := fun i hi => (hbel.cell (p := ⟨b, off + i, none⟩) (by have := (haa (by omega)).2; show b < w.heap.size; omega)).trans (hca i hi)
    clear hown hbel hm hca
    go_wp2
    go_loop [5, 6, 7, 8] (fun c s t _ => ∃ k : Nat, k ≤ n ∧ t = .int .i64 k ∧ c = .int .i64 (colTo ss m k) ∧ s = .bool (someTo ss m k)) (fun _ _ t _ => n - (intOf t).toNat)
    case atStart => exact ⟨0, Nat.zero_le _, rfl, rfl, rfl⟩
    case round =>
      obtain ⟨k, hk, rfl, rfl, rfl⟩ := hrel
      by_cases hlt : k < n
      · obtain rfl := (haa (by omega)).1
        have cA := hcw k hlt
        obtain ⟨x, hx⟩ : ∃ x, x = ss.getD k ByteArray.empty := ⟨_, rfl⟩
        rw [← hx] at cA
        have hxw := word_getD HW.out (by rw [← HN.out]; exact hlt : k < ss.length)
        rw [← hx] at hxw
        obtain ⟨c0, c1⟩ := colTo_bound HW.out m k (by rw [← HN.out]; omega) (by omega)
        obtain ⟨p0, p1, p2⟩ := pow3_bound k (by omega)
        have p3 := p2 (by omega)
        have HS := Lib.hid (someTo_succ ss m k (by rw [← HN.out]; exact hlt))
        have HC := Lib.hid (show colTo ss m (k + 1) = colTo ss m k + dig x m * pow3 k by rw [hx]; rfl)
        have HX := Lib.hid hx
        have HXW := Lib.hid hxw
        have HPW := Lib.hid (fun W => powAny k (by omega) W)
        obtain ⟨c, hc⟩ : ∃ c, c = colTo ss m k := ⟨_, rfl⟩
        obtain ⟨p, hp⟩ : ∃ p, p = pow3 k := ⟨_, rfl⟩
        obtain ⟨sm, hsm⟩ : ∃ sm, sm = someTo ss m k := ⟨_, rfl⟩
        rw [← hc, ← hp] at HC
        rw [← hp] at HPW p0 p1 p3
        rw [← hc] at c0 c1
        rw [← hp] at c1
        rw [← hsm] at HS
        rw [← hc, ← hsm]
        clear hx hxw hcw p2 hc hp hsm haa
        by_cases hin : m < x.size
        · rcases word_byte HXW.out hin with e | e
          · have HD := Lib.hid (show dig x m = 0 by rw [dig_in hin, e]; rfl)
            go_wp2_with (go_at_call 86; refine (HPW.out _).mono ?_; rintro e w' ⟨rfl, rfl⟩)
            go_round
            case rel => exact ⟨k + 1, by omega, by go_num, by rw [HC.out, HD.out]; go_num, by rw [HS.out, ← HX.out, decide_eq_true hin, Bool.or_true]⟩
            case measure => simp [intOf]; omega
          · have HD := Lib.hid (show dig x m = 1 by rw [dig_in hin, e]; rfl)
            go_wp2_with (go_at_call 86; refine (HPW.out _).mono ?_; rintro e w' ⟨rfl, rfl⟩)
            go_round
            case rel => exact ⟨k + 1, by omega, by go_num, by rw [HC.out, HD.out]; go_num, by rw [HS.out, ← HX.out, decide_eq_true hin, Bool.or_true]⟩
            case measure => simp [intOf]; omega
        · have HD := Lib.hid (dig_out hin)
          go_wp2_with (go_at_call 86; refine (HPW.out _).mono ?_; rintro e w' ⟨rfl, rfl⟩)
          go_round
          case rel => exact ⟨k + 1, by omega, by go_num, by rw [HC.out, HD.out], by rw [HS.out, ← HX.out, decide_eq_false hin, Bool.or_false]⟩
          case measure => simp [intOf]; omega
      · have hkn : k = n := by omega
        subst hkn
        have HA := Lib.hid (someTo_all ss m k (by rw [← HN.out]; exact Nat.le_refl _))
        obtain ⟨c, hc⟩ : ∃ c, c = colTo ss m k := ⟨_, rfl⟩
        have HC := Lib.hid hc
        rw [← hc]
        clear hc hcw haa
        by_cases hmw : m < width ss
        · have hst : someTo ss m k = true := by rw [HA.out, decide_eq_true hmw]
          rw [hst]
          have HSU := Lib.hid (colsTo_succ ss m)
          have HMW := Lib.hid hmw
          clear hst hmw
          go_wp2_with (at_builtin; refine wpList_append_own _ rfl _ _ 41 rfl w.heap.size 2 i0 (.int .i64 0) 1 8 Try.underlying41 hi hz0 hz1 hz2 rfl (by decide) _ _ _ rfl (HO.out.alloc _) ⟨wr.heap.size, 0, none⟩ 1 1 [.int .i64 c] rfl rfl ?c1 ?c2 ?c3 ?c4 ?c5 ?_)
          case c2 => rfl
          case c3 => unfold maxLen; omega
          case c4 => omega
          case c5 => have := HB.out.size; simp; omega
          · intro v' w1 hown' hgrow _
            have HO' := Lib.hid hown'
            have HG := Lib.hid hgrow
            clear hown' hgrow
            go_wp2
            go_roundw
            case rel =>
              refine ⟨m + 1, HMW.out, by go_num, ?_, ?_⟩
              · have := HO'.out
                rw [HSU.out, List.map_append, ← HN.out, ← HC.out]
                exact this
              · refine (HB.out.alloc HB.out.size _).grown HG.out (by have := HB.out.size; simp; omega) (fun z hz => ?_)
                exact (HO.out.lt z hz).1
            case measure => simp [intOf]; omega
        · have hst : someTo ss m k = false := by rw [HA.out, decide_eq_false hmw]
          rw [hst]
          have HMW := Lib.hid (show m = width ss by have := HM.out; omega)
          clear hst hmw
          go_wp2
          go_ret
          exact ⟨_, rfl, by rw [cols_length, cols_eq, ← HMW.out]; exact HO.out, HB.out⟩
end Go.Proofs.Yticpmakpajnilaa.SpecCols
