
/- Rows that a law marks: their content by the index, and what stays of the rest of the memory.
   Conditions: stated at each theorem. -/
import Derived.Test.YthebmpdkiocbmaaDoorRel
import Derived.Deep.RegionWith
import Derived.Maps.AppendAt
namespace Go.Proofs.YthebmpdkiocbmaaDoor.MarkRow
set_option linter.unusedVariables false
set_option linter.unusedSimpArgs false
open Go.RowKit Mem Copy Rel

/-- The slice value v is a row of its own of elements of type t, at block lo or behind it; element i holds f i. -/
def Row (w : World) (lo : Nat) (t : TypeId) (v : Value) (n : Nat) (f : Nat → Value) : Prop :=
  ∃ a cap, v = .slice a n cap ∧ (0 < n → ∃ g m F, a = some ⟨g, 0, none⟩ ∧ lo ≤ g ∧ n ≤ m ∧ w.rowIs g t m F ∧ ∀ i, i < n → F i = f i)

theorem Row.of_row {w : World} {M n : Nat} {t : TypeId} {f : Nat → Value} (h : w.rowIs M t n f) : Row w M t (.slice (some ⟨M, 0, none⟩) n n) n f :=
  ⟨_, _, rfl, fun _ => ⟨M, n, f, rfl, Nat.le_refl _, Nat.le_refl _, h, fun _ _ => rfl⟩⟩

theorem Row.of_owns {w : World} {base : Nat} {t : TypeId} {v : Value} {xs : List Value} (h : w.ownsRow base t 1 v xs.length xs) (f : Nat → Value) (hf : ∀ i (hi : i < xs.length), f i = xs[i]) : Row w base t v xs.length f := by
  rcases h.2 with ⟨rfl, h0⟩ | ⟨g, cap, cur, rfl, hbg, hh, hn, hc, hs, ht⟩
  · rw [h0]; exact ⟨_, _, rfl, fun h => absurd h (Nat.lt_irrefl 0)⟩
  · refine ⟨_, _, rfl, fun _ => ⟨g, cap, fun i => cur.getD i default, rfl, hbg, hn, ⟨cur, hh, by omega, fun i hi => ?_⟩, fun i hi => ?_⟩⟩
    · have : i < cur.size := by omega
      simp [this]
    · rw [hf i hi]
      have h1 : i < cur.size := by omega
      have h2 : xs[i] = cur.toList[i]'(by simpa using h1) := by
        have : xs = cur.toList.take (xs.length * 1) := ht.symm
        rw [List.getElem_of_eq this hi, List.getElem_take]
      rw [h2]; simp [h1]

theorem Row.mono {w : World} {lo lo' : Nat} {t : TypeId} {v : Value} {n : Nat} {f : Nat → Value} (h : Row w lo t v n f) (hl : lo' ≤ lo) : Row w lo' t v n f := by
  obtain ⟨a, cap, rfl, h⟩ := h
  exact ⟨a, cap, rfl, fun hn => by obtain ⟨g, m, F, h1, h2, h3⟩ := h hn; exact ⟨g, m, F, h1, by omega, h3⟩⟩

theorem Row.below {w w' : World} {lo : Nat} {t : TypeId} {v : Value} {n : Nat} {f : Nat → Value} (h : Row w lo t v n f) (hb : Below w.heap.size w w') : Row w' lo t v n f := by
  obtain ⟨a, cap, rfl, h⟩ := h
  exact ⟨a, cap, rfl, fun hn => by obtain ⟨g, m, F, h1, h2, h3, h4, h5⟩ := h hn; exact ⟨g, m, F, h1, h2, h3, rowIs_below h4 hb h4.lt, h5⟩⟩

theorem Row.drewN {w : World} {lo : Nat} {t : TypeId} {v : Value} {n : Nat} {f : Nat → Value} (h : Row w lo t v n f) (m : Nat) : Row (w.drewN m) lo t v n f := h

theorem Row.grown {w w' : World} {lo : Nat} {t : TypeId} {v : Value} {n : Nat} {f : Nat → Value} {row : Option Nat} (h : Row w lo t v n f) (hg : w.grownBy w' row) (hr : ∀ k, row = some k → k < lo) : Row w' lo t v n f := by
  obtain ⟨a, cap, rfl, h⟩ := h
  exact ⟨a, cap, rfl, fun hn => by
    obtain ⟨g, m, F, h1, h2, h3, h4, h5⟩ := h hn
    exact ⟨g, m, F, h1, h2, h3, h4.of_block (hg.block g h4.lt (fun e => by have := hr g e.symm; omega)), h5⟩⟩

theorem Row.reads {w : World} {lo : Nat} {t : TypeId} {v : Value} {n : Nat} {f : Nat → Value} (h : Row w lo t v n f) (hm : n ≤ maxLen) : Sl w w.heap.size v n f := by
  obtain ⟨a, cap, rfl, h⟩ := h
  by_cases hn : 0 < n
  · obtain ⟨g, m, F, h1, h2, h3, h4, h5⟩ := h hn
    exact ⟨a, g, 0, cap, rfl, hm, fun _ => ⟨h1, h4.lt⟩, fun i hi => by rw [Nat.zero_add, h4.cell (by omega), h5 i hi]⟩
  · exact ⟨a, 0, 0, cap, rfl, hm, fun h => absurd h hn, fun i hi => by omega⟩

theorem sl_grown {w w' : World} {B : Nat} {v : Value} {n : Nat} {f : Nat → Value} {row : Option Nat} (h : Sl w B v n f) (hg : w.grownBy w' row) (hr : ∀ k, row = some k → B ≤ k) : Sl w' B v n f := by
  obtain ⟨a, b, off, cap, hv, hm, ha, hc⟩ := h
  refine ⟨a, b, off, cap, hv, hm, ha, fun i hi => ?_⟩
  exact hg.cell (hc i hi) (fun e => by have := hr b e.symm; have := (ha (by omega)).2; omega)

theorem below_grown {B : Nat} {w w1 w' : World} {row : Option Nat} (h : Below B w w1) (hg : w1.grownBy w' row) (hB : B ≤ w1.heap.size) (hr : ∀ k, row = some k → B ≤ k) : Below B w w' :=
  ⟨hg.os.trans h.os, hg.tape.trans h.tape, hg.output.trans h.output, Nat.le_trans h.size hg.size, fun k hk => (hg.block k (by omega) (fun e => by have := hr k e.symm; omega)).trans (h.block k hk)⟩

/-- Only block b has been written, and memory made. -/
theorem grown_set {w W : World} {b : Nat} (h : w.grownBy W (some b)) (x : Nat) (v : Value) : w.grownBy (W.setCell ⟨b, x, none⟩ v) (some b) :=
  ⟨h.os, h.tape, h.output, by simpa [World.setCell] using h.size, fun k hk hne => (Go.Deep.blk_setCell_other _ _ _ _ (fun e => hne (by rw [e]))).trans (h.block k hk hne)⟩
theorem grown_below {w W W' : World} {row : Option Nat} (h : w.grownBy W row) (hb : Below W.heap.size W W') : w.grownBy W' row :=
  ⟨hb.os.trans h.os, hb.tape.trans h.tape, hb.output.trans h.output, Nat.le_trans h.size hb.size, fun k hk hne => (hb.block k (by have := h.size; omega)).trans (h.block k hk hne)⟩
theorem grown_refl (w : World) (row : Option Nat) : w.grownBy w row := ⟨rfl, rfl, rfl, Nat.le_refl _, fun _ _ _ => rfl⟩

set_option maxHeartbeats 1000000 in
theorem markInts (v : Value) (n : Nat) (f : Nat → Value) (k : Nat) (lo : Nat) (w : World) (hr : Row w lo 2 v n f) (hn : n ≤ 1048576) (hk : k ≤ 1048576) :
    Calls Tryd.prog 23 #[v, .int .i64 k] w fun e w' => e = .returned (.int .i64 ((k + n : Nat) : Int)) ∧ Row w' lo 2 v n (fun i => .int .i64 ((k + i : Nat) : Int)) ∧ w.grownBy w' v.ownBlock := by
  obtain ⟨a, cap, rfl, hr⟩ := hr
  by_cases h0 : n = 0
  · subst h0
    clear hr
    go_enter Tryd.func23, Tryd.ntmps23
    go_wp2
    refine wp_loop_rounds 1 ?_
    rw [rounds_succ]
    go_wp2
    go_ret
    exact ⟨rfl, ⟨_, _, rfl, fun h => absurd h (Nat.lt_irrefl 0)⟩, grown_refl _ _⟩
  · obtain ⟨g, m, F, rfl, hlo, hnm, hrow, -⟩ := hr (by omega)
    have hg0 : g < w.heap.size := hrow.lt
    go_enter Tryd.func23, Tryd.ntmps23
    go_wp2
    go_loopw [1, 5] (fun kk i wr => ∃ j : Nat, j ≤ n ∧ i = .int .i64 j ∧ kk = .int .i64 ((k + j : Nat) : Int) ∧ wr.rowIs g 2 m (fun i => if i < j then .int .i64 ((k + i : Nat) : Int) else F i) ∧ w.grownBy wr (some g)) (fun _ i _ => n - (intOf i).toNat)
    case atStart => exact ⟨0, Nat.zero_le _, rfl, rfl, hrow.congr fun i hi => by rw [if_neg (Nat.not_lt_zero i)], grown_refl _ _⟩
    case round =>
      obtain ⟨j, hj, rfl, rfl, hrw, hgr⟩ := hrel
      have HR := Lib.hid hrw
      have HG := Lib.hid hgr
      by_cases hlt : j < n
      · have cN := hrw.cell (show j < m by omega)
        have fN := hrw.frozen j
        rw [if_neg (Nat.lt_irrefl j)] at cN
        obtain ⟨x, hx⟩ : ∃ x, x = F j := ⟨_, rfl⟩
        rw [← hx] at cN
        clear hrw hgr hr hrow hx
        go_wp2
        go_roundw
        case rel =>
          refine ⟨j + 1, hlt, by go_num, by go_num, (HR.out.set j _).congr fun i hi => ?_, grown_set HG.out _ _⟩
          by_cases e : i = j
          · subst e; simp
          · have h1 : (i < j + 1) = (i < j) := by apply propext; constructor <;> intro h <;> omega
            simp only [if_neg e, h1]
        case measure => simp [intOf]; omega
      · obtain rfl : j = n := by omega
        clear hrw hgr hr hrow
        go_wp2
        go_ret
        exact ⟨rfl, ⟨_, _, rfl, fun _ => ⟨g, m, _, rfl, hlo, hnm, HR.out, fun i hi => if_pos hi⟩⟩, HG.out⟩

set_option maxHeartbeats 1000000 in
theorem heldInts (v : Value) (n : Nat) (k : Nat) (B : Nat) (w : World) (hr : Sl w B v n (fun i => .int .i64 ((k + i : Nat) : Int))) (hn : n ≤ 1048576) (hk : k ≤ 1048576) :
    Calls Tryd.prog 70 #[v, .int .i64 k] w fun e w' => e = .returned (.int .i64 ((k + n : Nat) : Int)) ∧ w = w' := by
  obtain ⟨a, b, off, cap, rfl, -, ha, hc⟩ := hr
  go_enter Tryd.func70, Tryd.ntmps70
  go_wp2
  go_loop [1, 5] (fun kk i => ∃ j : Nat, j ≤ n ∧ i = .int .i64 j ∧ kk = .int .i64 ((k + j : Nat) : Int)) (fun _ i => n - (intOf i).toNat)
  case atStart => exact ⟨0, Nat.zero_le _, rfl, rfl⟩
  case round =>
    obtain ⟨j, hj, rfl, rfl⟩ := hrel
    by_cases hlt : j < n
    · obtain rfl := (ha (by omega)).1
      have cA := hc j hlt
      have hne : (((k + j : Nat) : Int) != ((k + j : Nat) : Int)) = false := by simp
      clear hc ha
      go_wp2
      go_round
      case rel => exact ⟨j + 1, hlt, by go_num, by go_num⟩
      case measure => simp [intOf]; omega
    · obtain rfl : j = n := by omega
      clear hc ha
      go_wp2
      go_ret
      exact ⟨rfl, rfl⟩
end Go.Proofs.YthebmpdkiocbmaaDoor.MarkRow
