
/- What the model's WordsOf answers: a row of its own, and a code.
   Conditions: the columns are read as XMem's text says. -/
import Derived.Test.YticpmakpajnilaaSpecTuple
import Derived.Test.YticpmakpajnilaaMarkRow
import Derived.Test.YticpmakpajnilaaValid
import Derived.Deep.QuietTactic
import Derived.BigQuiet
namespace Go.Proofs.Yticpmakpajnilaa.SpecWords
open Go.RowKit Mem Copy Rel Strs Words ColMath Columns TupMath SpecTuple MarkT MarkRow

def inOk (t : Int) (cs : List Int) : Bool := inB t 1 3 && decide (cs.length ≤ 40) && cs.all fun c => inB c 0 (widthOf t - 1)
def wordsC (t : Int) (cs : List Int) : Int := if inOk t cs = true then (if rightB t.toNat cs = true then 0 else 4) else 2
def wordsL (t : Int) (cs : List Int) : List ByteArray := if inOk t cs = true ∧ rightB t.toNat cs = true then (List.range t.toNat).map fun u => strOfNums (wd cs u) else []

theorem out_C {t : Int} {cs : List Int} (h : inOk t cs = false) : wordsC t cs = 2 := by simp [wordsC, h]
theorem out_L {t : Int} {cs : List Int} (h : inOk t cs = false) : wordsL t cs = [] := by simp [wordsL, h]
theorem bad_C {t : Int} {cs : List Int} (h : inOk t cs = true) (h2 : rightB t.toNat cs = false) : wordsC t cs = 4 := by simp [wordsC, h, h2]
theorem bad_L {t : Int} {cs : List Int} (h2 : rightB t.toNat cs = false) : wordsL t cs = [] := by simp [wordsL, h2]
theorem yes_C {t : Int} {cs : List Int} (h : inOk t cs = true) (h2 : rightB t.toNat cs = true) : wordsC t cs = 0 := by simp [wordsC, h, h2]
theorem yes_L {t : Int} {cs : List Int} (h : inOk t cs = true) (h2 : rightB t.toNat cs = true) : wordsL t cs = (List.range t.toNat).map fun u => strOfNums (wd cs u) := by simp [wordsL, h, h2]

/-- What both hand back: a row of texts of their own. -/
def FreshS (base : Nat) (W : World) (v : Value) (ss : List ByteArray) : Prop := Row W base 9 v ss.length fun i => .string (ss.getD i ByteArray.empty)

theorem freshS_none (W : World) (base : Nat) (a : Option Addr) (cap : Nat) : FreshS base W (.slice a 0 cap) [] := ⟨_, _, rfl, fun h => absurd h (Nat.lt_irrefl 0)⟩
theorem freshS_row {W : World} {N n : Nat} {cs : List Int} (h : W.rowIs N 9 n (fun u => .string (strOfNums (wd cs u)))) : FreshS N W (.slice (some ⟨N, 0, none⟩) n n) ((List.range n).map fun u => strOfNums (wd cs u)) := by
  have e : ((List.range n).map fun u => strOfNums (wd cs u)).length = n := by simp
  unfold FreshS
  rw [e]
  exact Row.of_row (h.congr fun i hi => by simp [List.getD, hi])

theorem inOk_long {t : Int} {cs : List Int} (h : ¬ cs.length ≤ 40) : inOk t cs = false := by simp [inOk, h]
theorem inOk_t {t : Int} {cs : List Int} (h : inB t 1 3 = false) : inOk t cs = false := by simp [inOk, h]
theorem inOk_c {t : Int} {cs : List Int} {k : Nat} (hk : k < cs.length) (h : inB (cs.getD k 0) 0 (widthOf t - 1) = false) : inOk t cs = false := by
  unfold inOk; rw [all_false cs 0 _ k hk h, Bool.and_false]
theorem inOk_yes {t : Int} {cs : List Int} (h1 : inB t 1 3 = true) (h2 : cs.length ≤ 40) (h3 : cs.all (fun c => inB c 0 (widthOf t - 1)) = true) : inOk t cs = true := by
  unfold inOk; rw [h1, h3]; simp [h2]

theorem quiet_of {P : Program} {f : FuncId} {args : Array Value} {v : Value} (W : World) (h : ∀ W, Calls P f args W fun e w' => e = .returned v ∧ W = w') :
    ∀ q, Calls P f args (W.drewN q) fun e w' => e = .returned v ∧ ∃ n, w' = (W.drewN q).drewN n :=
  fun q => (h _).mono fun _ _ ⟨he, hw⟩ => ⟨he, 0, by rw [← hw]; rfl⟩

set_option maxHeartbeats 2000000 in
theorem specWordsOf (t : Int) (cs : List Int) (va : Value) (w : World) (B : Nat) (ha : Ints w B va cs) (hB : B ≤ w.heap.size) :
    Calls Try.prog 39 #[.int .i64 t, va] w fun e w' => ∃ v, e = .returned (.tuple #[v, .int .i64 (wordsC t cs)]) ∧ FreshS w.heap.size w' v (wordsL t cs) ∧ Below w.heap.size w w' := by
  have HA := Lib.hid ha
  have HBB := Lib.hid hB
  obtain ⟨a, b, off, cap, rfl, hma, haa, hca⟩ := ha
  unfold maxLen at hma
  clear hB
  obtain ⟨m, hm⟩ : ∃ m, m = cs.length := ⟨_, rfl⟩
  rw [← hm] at hma HA hca haa
  rw [← hm]
  have HM := Lib.hid hm
  clear hm
  by_cases ht : 1 ≤ t ∧ t ≤ 3
  · have h1 : inB t 1 3 = true := by unfold inB; simp; omega
    have HT := Lib.hid ht
    have hwd := Columns.wideAny t ht.1 ht.2
    have hw0 := (Valid.width_bounds t).1
    have hw1 := (Valid.width_bounds t).2
    by_cases hl : m ≤ 40
    · go_enter Try.func39, Try.ntmps39
      have HW := Lib.hid hwd
      clear hwd ht
      go_wp2_with (go_at_call 52; refine (inRange _ _ _ _).mono ?_; rw [h1]; rintro e w' ⟨rfl, rfl⟩)
      go_loopw [6] (fun i wr => ∃ k z : Nat, k ≤ m ∧ i = .int .i64 k ∧ (cs.take k).all (fun c => inB c 0 (widthOf t - 1)) = true ∧ wr = w.drewN z) (fun i _ => m - (intOf i).toNat)
      case atStart => exact ⟨0, 0, Nat.zero_le _, rfl, rfl, rfl⟩
      case round =>
        obtain ⟨k, z, hk, rfl, hg, rfl⟩ := hrel
        have HG := Lib.hid hg
        clear hg
        by_cases hlt : k < m
        · obtain rfl := (haa (by omega)).1
          have cA := hca k hlt
          obtain ⟨x, hx⟩ : ∃ x, x = cs.getD k 0 := ⟨_, rfl⟩
          rw [← hx] at cA
          have HX := Lib.hid hx
          have hkm : k < cs.length := by rw [← HM.out]; exact hlt
          clear hx hca haa
          cases hin : inB x 0 (widthOf t - 1) with
          | true =>
            have HG' := Lib.hid (all_take_succ cs 0 (fun c => inB c 0 (widthOf t - 1)) k hkm HG.out (by rw [← HX.out]; exact hin))
            have HIN := Lib.hid hin
            clear hin
            have HQ1 := Lib.hid (quiet_of w HW.out)
            have HQ2 := Lib.hid (quiet_of w (fun W => by have := inRange x 0 (widthOf t - 1) W; rw [HIN.out] at this; exact this))
            go_wp2_with fail
            go_quiet (first | (go_at_call 54; exact quiet_drewN HQ1.out) | (go_at_call 52; exact quiet_drewN HQ2.out))
            go_wp2_with fail
            go_roundw
            case rel => exact ⟨k + 1, _, by omega, by go_num, HG'.out, rfl⟩
            case measure => simp [intOf]; omega
          | false =>
            have HO := Lib.hid (inOk_c (t := t) hkm (by rw [← HX.out]; exact hin))
            have HC := Lib.hid (out_C HO.out)
            have HL := Lib.hid (out_L HO.out)
            have HIN := Lib.hid hin
            clear hin
            have HQ1 := Lib.hid (quiet_of w HW.out)
            have HQ2 := Lib.hid (quiet_of w (fun W => by have := inRange x 0 (widthOf t - 1) W; rw [HIN.out] at this; exact this))
            go_wp2_with fail
            go_quiet (first | (go_at_call 54; exact quiet_drewN HQ1.out) | (go_at_call 52; exact quiet_drewN HQ2.out))
            go_wp2_with fail
            go_ret2
            exact ⟨_, by rw [HC.out]; rfl, by rw [HL.out]; exact freshS_none _ _ _ _, base_box (below_drewN (Below.refl _ w) _) _⟩
        · have hall := all_end cs (fun c => inB c 0 (widthOf t - 1)) k (by rw [← HM.out]; omega) HG.out
          have HO := Lib.hid (inOk_yes h1 (by rw [← HM.out]; exact hl) hall)
          have hc : ∀ i, i < cs.length → 0 ≤ cs.getD i 0 ∧ cs.getD i 0 ≤ 25 := fun i hi => by
            have := List.all_eq_true.1 hall (cs.getD i 0) (by simp [List.getD, hi])
            unfold inB at this
            have := of_decide_eq_true this
            omega
          obtain ⟨n, rfl⟩ : ∃ n : Nat, t = n := ⟨t.toNat, by have := HT.out; omega⟩
          have HTU := Lib.hid (fun W (h : Ints W B (.slice a m cap) cs) (hb : B ≤ W.heap.size) => specTuple n cs (.slice a m cap) W B (by have := HT.out; omega) h hb (by rw [← HM.out]; exact hl) hc)
          have hnn : (n : Int).toNat = n := by omega
          clear hca haa hall hc
          cases hr : rightB n cs with
          | true =>
            have HC := Lib.hid (yes_C HO.out (by rw [hnn]; exact hr))
            have HL := Lib.hid (yes_L HO.out (by rw [hnn]; exact hr))
            rw [hnn] at HL
            rw [hr] at HTU
            clear hr hnn
            go_wp2_with (go_at_call 77; refine (HTU.out (w.drewN z) (HA.out.drewN z) HBB.out).mono ?_; rintro e w3 ⟨rfl, hrow, hb⟩; have HR3 := Lib.hid (hrow rfl); have HB3 := Lib.hid (base_step (below_drewN (Below.refl _ w) z) hb); clear hrow hb)
            go_ret2
            exact ⟨_, by rw [HC.out]; rfl, by rw [HL.out]; exact freshS_row HR3.out, HB3.out⟩
          | false =>
            have HC := Lib.hid (bad_C HO.out (by rw [hnn]; exact hr))
            have HL := Lib.hid (bad_L (t := (n : Int)) (cs := cs) (by rw [hnn]; exact hr))
            rw [hr] at HTU
            clear hr hnn
            go_wp2_with (go_at_call 77; refine (HTU.out (w.drewN z) (HA.out.drewN z) HBB.out).mono ?_; rintro e w3 ⟨rfl, -, hb⟩; have HB3 := Lib.hid (base_step (below_drewN (Below.refl _ w) z) hb); clear hb)
            go_ret2
            exact ⟨_, by rw [HC.out]; rfl, by rw [HL.out]; exact freshS_none _ _ _ _, base_box HB3.out _⟩
    · have HC := Lib.hid (out_C (t := t) (inOk_long (t := t) (cs := cs) (by rw [← HM.out]; exact hl)))
      have HL := Lib.hid (out_L (t := t) (inOk_long (t := t) (cs := cs) (by rw [← HM.out]; exact hl)))
      rw [HC.out, HL.out]
      clear hca haa hwd
      go_enter Try.func39, Try.ntmps39
      go_wp2_with (go_at_call 52; refine (inRange _ _ _ _).mono ?_; rw [h1]; rintro e w' ⟨rfl, rfl⟩)
      go_ret2
      exact ⟨_, rfl, freshS_none _ _ _ _, (Below.refl _ _).alloc (Nat.le_refl _) _⟩
  · have h1 : inB t 1 3 = false := by unfold inB; simp; omega
    have HC := Lib.hid (out_C (t := t) (inOk_t (cs := cs) h1))
    have HL := Lib.hid (out_L (t := t) (inOk_t (cs := cs) h1))
    rw [HC.out, HL.out]
    clear hca haa
    go_enter Try.func39, Try.ntmps39
    go_wp2_with (go_at_call 52; refine (inRange _ _ _ _).mono ?_; rw [h1]; rintro e w' ⟨rfl, rfl⟩)
    go_ret2
    exact ⟨_, rfl, freshS_none _ _ _ _, (Below.refl _ _).alloc (Nat.le_refl _) _⟩
end Go.Proofs.Yticpmakpajnilaa.SpecWords
