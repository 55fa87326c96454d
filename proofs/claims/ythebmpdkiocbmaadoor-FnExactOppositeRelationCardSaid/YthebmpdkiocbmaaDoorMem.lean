
/- How a slice in memory reads as a list, and what of it stays when other memory is written; plain facts on lists that are compared element by element.
   Conditions: stated at each theorem. -/
import Derived.WalkKit
import Derived.ProofKit
import Derived.Lib.Hide
import Derived.Deep.OwnRows
import Derived.WalkSmall
namespace Go.Proofs.YthebmpdkiocbmaaDoor.Mem
set_option linter.unusedVariables false
set_option linter.unusedSimpArgs false
open Go.RowKit

/-- The slice value v has n elements of one cell each; element i holds f i; its row lies below block B. -/
def Sl (w : World) (B : Nat) (v : Value) (n : Nat) (f : Nat → Value) : Prop :=
  ∃ a b off cap, v = .slice a n cap ∧ n ≤ maxLen ∧ (0 < n → a = some ⟨b, off, none⟩ ∧ b < B) ∧ ∀ i, i < n → w.cell? ⟨b, off + i, none⟩ = some (f i)

theorem Sl.below {w w' : World} {B B' : Nat} {v : Value} {n : Nat} {f : Nat → Value} (h : Sl w B v n f) (hb : Below B' w w') (hB : B ≤ B') : Sl w' B v n f := by
  obtain ⟨a, b, off, cap, hv, hm, ha, hc⟩ := h
  refine ⟨a, b, off, cap, hv, hm, ha, fun i hi => ?_⟩
  rw [hb.cell (p := ⟨b, off + i, none⟩) (by have := (ha (by omega)).2; show b < B'; omega)]
  exact hc i hi

theorem Sl.mono {w : World} {B B' : Nat} {v : Value} {n : Nat} {f : Nat → Value} (h : Sl w B v n f) (hB : B ≤ B') : Sl w B' v n f := by
  obtain ⟨a, b, off, cap, hv, hm, ha, hc⟩ := h
  exact ⟨a, b, off, cap, hv, hm, fun h => ⟨(ha h).1, Nat.lt_of_lt_of_le (ha h).2 hB⟩, hc⟩

theorem Sl.congr {w : World} {B : Nat} {v : Value} {n : Nat} {f g : Nat → Value} (h : Sl w B v n f) (e : ∀ i, i < n → f i = g i) : Sl w B v n g := by
  obtain ⟨a, b, off, cap, hv, hm, ha, hc⟩ := h
  exact ⟨a, b, off, cap, hv, hm, ha, fun i hi => by rw [hc i hi, e i hi]⟩

theorem Sl.drewN {w : World} {B : Nat} {v : Value} {n : Nat} {f : Nat → Value} (h : Sl w B v n f) (m : Nat) : Sl (w.drewN m) B v n f := h

theorem Sl.of_row {w : World} {b e n : Nat} {f : Nat → Value} (h : w.rowIs b e n f) (B : Nat) (hB : b < B) (hm : n ≤ maxLen) : Sl w B (.slice (some ⟨b, 0, none⟩) n n) n f :=
  ⟨_, b, 0, n, rfl, hm, fun _ => ⟨rfl, hB⟩, fun i hi => by rw [Nat.zero_add]; exact h.cell hi⟩

/-- Lists of numbers, of truth values, of lists of numbers, in memory. -/
def Ints (w : World) (B : Nat) (v : Value) (xs : List Int) : Prop := Sl w B v xs.length fun i => .int .i64 (xs.getD i 0)
def Bools (w : World) (B : Nat) (v : Value) (xs : List Bool) : Prop := Sl w B v xs.length fun i => .bool (xs.getD i false)
def IntRows (w : World) (B : Nat) (v : Value) (xss : List (List Int)) : Prop :=
  ∃ V : Nat → Value, Sl w B v xss.length V ∧ ∀ i, i < xss.length → Ints w B (V i) (xss.getD i [])

theorem Ints.below {w w' : World} {B B' : Nat} {v : Value} {xs : List Int} (h : Ints w B v xs) (hb : Below B' w w') (hB : B ≤ B') : Ints w' B v xs := Sl.below h hb hB
theorem Ints.mono {w : World} {B B' : Nat} {v : Value} {xs : List Int} (h : Ints w B v xs) (hB : B ≤ B') : Ints w B' v xs := Sl.mono h hB
theorem Bools.below {w w' : World} {B B' : Nat} {v : Value} {xs : List Bool} (h : Bools w B v xs) (hb : Below B' w w') (hB : B ≤ B') : Bools w' B v xs := Sl.below h hb hB
theorem Bools.mono {w : World} {B B' : Nat} {v : Value} {xs : List Bool} (h : Bools w B v xs) (hB : B ≤ B') : Bools w B' v xs := Sl.mono h hB
theorem IntRows.below {w w' : World} {B B' : Nat} {v : Value} {xss : List (List Int)} (h : IntRows w B v xss) (hb : Below B' w w') (hB : B ≤ B') : IntRows w' B v xss := by
  obtain ⟨V, h1, h2⟩ := h
  exact ⟨V, h1.below hb hB, fun i hi => (h2 i hi).below hb hB⟩
theorem IntRows.mono {w : World} {B B' : Nat} {v : Value} {xss : List (List Int)} (h : IntRows w B v xss) (hB : B ≤ B') : IntRows w B' v xss := by
  obtain ⟨V, h1, h2⟩ := h
  exact ⟨V, h1.mono hB, fun i hi => (h2 i hi).mono hB⟩

/-- A callee that only draws, met in a region behind other draws. -/
theorem quiet_drewN {P : Program} {f : FuncId} {args : Array Value} {w : World} {v : Value} {m x : Nat}
    (h : ∀ q, Calls P f args (w.drewN q) fun e w' => e = .returned v ∧ ∃ n, w' = (w.drewN q).drewN n) :
    Calls P f args (w.drewN (m + x)) fun e w'' => e = .returned v ∧ ∃ n, w'' = w.drewN (m + n) :=
  (h (m + x)).mono fun _ _ ⟨he, p, hp⟩ => ⟨he, x + p, by rw [hp, World.drewN_drewN, Nat.add_assoc]⟩

/-- The two lists are equal, told as a truth value. -/
def same {α : Type} [DecidableEq α] (xs ys : List α) : Bool := decide (xs = ys)

theorem take_succ_getD {α : Type} (xs : List α) (d : α) (k : Nat) (h : k < xs.length) : xs.take (k + 1) = xs.take k ++ [xs.getD k d] := by
  rw [List.take_succ_eq_append_getElem h]; simp [List.getD, h]

theorem same_step {α : Type} (xs ys : List α) (d : α) (k : Nat) (h : k < xs.length) (h' : k < ys.length) (g : xs.take k = ys.take k) (e : xs.getD k d = ys.getD k d) :
    xs.take (k + 1) = ys.take (k + 1) := by
  rw [take_succ_getD xs d k h, take_succ_getD ys d k h', g, e]

theorem same_no {α : Type} [DecidableEq α] (xs ys : List α) (d : α) (k : Nat) (e : ¬ xs.getD k d = ys.getD k d) : same xs ys = false := by
  unfold same; rw [decide_eq_false]; intro h; subst h; exact e rfl

theorem same_len {α : Type} [DecidableEq α] (xs ys : List α) (e : ¬ xs.length = ys.length) : same xs ys = false := by
  unfold same; rw [decide_eq_false]; intro h; subst h; exact e rfl

theorem same_end {α : Type} [DecidableEq α] (xs ys : List α) (k : Nat) (h : k = xs.length) (e : xs.length = ys.length) (g : xs.take k = ys.take k) : same xs ys = true := by
  unfold same
  rw [decide_eq_true]
  rw [List.take_of_length_le (by omega), List.take_of_length_le (by omega)] at g
  exact g

theorem same_self {α : Type} [DecidableEq α] (xs : List α) : same xs xs = true := by simp [same]

end Go.Proofs.YthebmpdkiocbmaaDoor.Mem
