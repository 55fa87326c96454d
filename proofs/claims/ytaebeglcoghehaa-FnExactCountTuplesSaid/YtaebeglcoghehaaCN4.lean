
/- How a slice in memory reads as a list, and what of it stays when other memory is written; plain facts on lists that are compared element by element.
   Conditions: stated at each theorem. -/
import Derived.WalkKit
import Derived.ProofKit
import Derived.Lib.Hide
import Derived.Deep.OwnRows
import Derived.WalkSmall
import Derived.Test.YtaebeglcoghehaaRows
import Derived.Maps.AppendAt
import Derived.Deep.AppendLies
import Derived.Deep.RegionLaw
namespace Go.Proofs.Ytaebeglcoghehaa.Mem
set_option linter.unusedVariables false
set_option linter.unusedSimpArgs false
open Go.RowKit

/-- The slice value v has n elements of one cell each; element i holds f i; its row lies below block B. -/
def Sl (w : World) (B : Nat) (v : Value) (n : Nat) (f : Nat → Value) : Prop :=
  ∃ a b off cap, v = .slice a n cap ∧ n ≤ maxLen ∧ (0 < n → a = some ⟨b, off, none⟩ ∧ b < B) ∧ ∀ i, i < n → w.cell? ⟨b, off + i, none⟩ = some (f i)

theorem Sl.below {w w' : World} {B B' : Nat} {v : Value} {n : Nat} {f : Nat → Value} (h : Sl w B v n f) (hb : Below B' w w') (hB : B ≤ B') : Sl w' B v n f := by
  obtain ⟨a, b, off, cap, hv, hm, ha, hc⟩ := h
  refine ⟨a, b, off, cap, hv, hm, ha, fun i hi => ?_⟩
  rw [hb.cell (p := ⟨b, off + i, none⟩) (by have := (ha (by omega)).2; show b < B'; omega)]
  exact hc i hi

theorem Sl.mono {w : World} {B B' : Nat} {v : Value} {n : Nat} {f : Nat → Value} (h : Sl w B v n f) (hB : B ≤ B') : Sl w B' v n f := by
  obtain ⟨a, b, off, cap, hv, hm, ha, hc⟩ := h
  exact ⟨a, b, off, cap, hv, hm, fun h => ⟨(ha h).1, Nat.lt_of_lt_of_le (ha h).2 hB⟩, hc⟩

theorem Sl.congr {w : World} {B : Nat} {v : Value} {n : Nat} {f g : Nat → Value} (h : Sl w B v n f) (e : ∀ i, i < n → f i = g i) : Sl w B v n g := by
  obtain ⟨a, b, off, cap, hv, hm, ha, hc⟩ := h
  exact ⟨a, b, off, cap, hv, hm, ha, fun i hi => by rw [hc i hi, e i hi]⟩

theorem Sl.drewN {w : World} {B : Nat} {v : Value} {n : Nat} {f : Nat → Value} (h : Sl w B v n f) (m : Nat) : Sl (w.drewN m) B v n f := h

theorem Sl.of_row {w : World} {b e n : Nat} {f : Nat → Value} (h : w.rowIs b e n f) (B : Nat) (hB : b < B) (hm : n ≤ maxLen) : Sl w B (.slice (some ⟨b, 0, none⟩) n n) n f :=
  ⟨_, b, 0, n, rfl, hm, fun _ => ⟨rfl, hB⟩, fun i hi => by rw [Nat.zero_add]; exact h.cell hi⟩

/-- Lists of numbers, of truth values, of lists of numbers, in memory. -/
def Ints (w : World) (B : Nat) (v : Value) (xs : List Int) : Prop := Sl w B v xs.length fun i => .int .i64 (xs.getD i 0)
def Bools (w : World) (B : Nat) (v : Value) (xs : List Bool) : Prop := Sl w B v xs.length fun i => .bool (xs.getD i false)
def IntRows (w : World) (B : Nat) (v : Value) (xss : List (List Int)) : Prop :=
  ∃ V : Nat → Value, Sl w B v xss.length V ∧ ∀ i, i < xss.length → Ints w B (V i) (xss.getD i [])

theorem Ints.below {w w' : World} {B B' : Nat} {v : Value} {xs : List Int} (h : Ints w B v xs) (hb : Below B' w w') (hB : B ≤ B') : Ints w' B v xs := Sl.below h hb hB
theorem Ints.mono {w : World} {B B' : Nat} {v : Value} {xs : List Int} (h : Ints w B v xs) (hB : B ≤ B') : Ints w B' v xs := Sl.mono h hB
theorem Bools.below {w w' : World} {B B' : Nat} {v : Value} {xs : List Bool} (h : Bools w B v xs) (hb : Below B' w w') (hB : B ≤ B') : Bools w' B v xs := Sl.below h hb hB
theorem Bools.mono {w : World} {B B' : Nat} {v : Value} {xs : List Bool} (h : Bools w B v xs) (hB : B ≤ B') : Bools w B' v xs := Sl.mono h hB
theorem IntRows.below {w w' : World} {B B' : Nat} {v : Value} {xss : List (List Int)} (h : IntRows w B v xss) (hb : Below B' w w') (hB : B ≤ B') : IntRows w' B v xss := by
  obtain ⟨V, h1, h2⟩ := h
  exact ⟨V, h1.below hb hB, fun i hi => (h2 i hi).below hb hB⟩
theorem IntRows.mono {w : World} {B B' : Nat} {v : Value} {xss : List (List Int)} (h : IntRows w B v xss) (hB : B ≤ B') : IntRows w B' v xss := by
  obtain ⟨V, h1, h2⟩ := h
  exact ⟨V, h1.mono hB, fun i hi => (h2 i hi).mono hB⟩

/-- A callee that only draws, met in a region behind other draws. -/
theorem quiet_drewN {P : Program} {f : FuncId} {args : Array Value} {w : World} {v : Value} {m x : Nat}
    (h : ∀ q, Calls P f args (w.drewN q) fun e w' => e = .returned v ∧ ∃ n, w' = (w.drewN q).drewN n) :
    Calls P f args (w.drewN (m + x)) fun e w'' => e = .returned v ∧ ∃ n, w'' = w.drewN (m + n) :=
  (h (m + x)).mono fun _ _ ⟨he, p, hp⟩ => ⟨he, x + p, by rw [hp, World.drewN_drewN, Nat.add_assoc]⟩

/-- The two lists are equal, told as a truth value. -/
def same {α : Type} [DecidableEq α] (xs ys : List α) : Bool := decide (xs = ys)

theorem take_succ_getD {α : Type} (xs : List α) (d : α) (k : Nat) (h : k < xs.length) : xs.take (k + 1) = xs.take k ++ [xs.getD k d] := by
  rw [List.take_succ_eq_append_getElem h]; simp [List.getD, h]

theorem same_step {α : Type} (xs ys : List α) (d : α) (k : Nat) (h : k < xs.length) (h' : k < ys.length) (g : xs.take k = ys.take k) (e : xs.getD k d = ys.getD k d) :
    xs.take (k + 1) = ys.take (k + 1) := by
  rw [take_succ_getD xs d k h, take_succ_getD ys d k h', g, e]

theorem same_no {α : Type} [DecidableEq α] (xs ys : List α) (d : α) (k : Nat) (e : ¬ xs.getD k d = ys.getD k d) : same xs ys = false := by
  unfold same; rw [decide_eq_false]; intro h; subst h; exact e rfl

theorem same_len {α : Type} [DecidableEq α] (xs ys : List α) (e : ¬ xs.length = ys.length) : same xs ys = false := by
  unfold same; rw [decide_eq_false]; intro h; subst h; exact e rfl

theorem same_end {α : Type} [DecidableEq α] (xs ys : List α) (k : Nat) (h : k = xs.length) (e : xs.length = ys.length) (g : xs.take k = ys.take k) : same xs ys = true := by
  unfold same
  rw [decide_eq_true]
  rw [List.take_of_length_le (by omega), List.take_of_length_le (by omega)] at g
  exact g

theorem same_self {α : Type} [DecidableEq α] (xs : List α) : same xs xs = true := by simp [same]

end Go.Proofs.Ytaebeglcoghehaa.Mem
/- What the functions that copy lists in memory hand back: new rows at the heap's end.
   Conditions: the lists are read as XMem's text says, and are not too long. -/
namespace Go.Proofs.Ytaebeglcoghehaa.Copy
set_option linter.unusedVariables false
set_option linter.unusedSimpArgs false
open Go.RowKit Mem

theorem info2 : (Try.prog.info? 2).map (fun i => (i.zero, i.size, i.bytes)) = some (some (.int .i64 0), 1, 8) := by kernel_rfl

set_option maxHeartbeats 400000 in
theorem copyInts (xs : List Int) (va : Value) (w : World) (B : Nat) (ha : Ints w B va xs) (hB : B ≤ w.heap.size) (hx : xs.length ≤ 1048576) :
    Calls Try.prog 27 #[va] w fun e w' => e = .returned (.slice (some ⟨w.heap.size, 0, none⟩) xs.length xs.length) ∧
      w'.rowIs w.heap.size 2 xs.length (fun i => .int .i64 (xs.getD i 0)) ∧ Below w.heap.size w w' ∧ w'.heap.size = w.heap.size + 1 := by
  obtain ⟨a, b, off, cap, rfl, hma, haa, hca⟩ := ha
  obtain ⟨n, hn⟩ : ∃ n, n = xs.length := ⟨_, rfl⟩
  rw [← hn] at hma hca haa hx
  rw [← hn]
  clear hma hn
  have hmk := run_make_row' (P := Try.prog) 44 2 (.int .i64 0) 8 Try.underlying44 info2 rfl .i64 .i64 n (by omega) (by omega)
  go_enter Try.func27, Try.ntmps27
  go_wp2
  go_loopw [4] (fun i wr => ∃ k : Nat, k ≤ n ∧ i = .int .i64 k ∧ wr.rowIs w.heap.size 2 n (fun j => if j < k then .int .i64 (xs.getD j 0) else .int .i64 0) ∧ Below w.heap.size w wr ∧ wr.heap.size = w.heap.size + 1) (fun i _ => n - (intOf i).toNat)
  case atStart =>
    exact ⟨0, Nat.zero_le _, rfl, (World.rowIs_made _ _ _ _).congr fun i hi => by simp, (Below.refl _ _).alloc (Nat.le_refl _) _, by simp⟩
  case round =>
    obtain ⟨k, hk, rfl, hrow, hbel, hsz⟩ := hrel
    by_cases hlt : k < n
    · obtain rfl := (haa (by omega)).1
      have hbB := (haa (by omega)).2
      have cA : wr.cell? ⟨b, off + k, none⟩ = some (.int .i64 (xs.getD k 0)) := (hbel.cell (p := ⟨b, off + k, none⟩) (by show b < _; omega)).trans (hca k hlt)
      obtain ⟨x, hx'⟩ : ∃ x, x = xs.getD k 0 := ⟨_, rfl⟩
      rw [← hx'] at cA
      have cN := hrow.cell hlt
      have fN := hrow.frozen k
      obtain ⟨o, ho⟩ : ∃ o, o = (if k < k then (Value.int .i64 (xs.getD k 0)) else .int .i64 0) := ⟨_, rfl⟩
      have cN' : wr.cell? ⟨w.heap.size, k, none⟩ = some (.int .i64 0) := by rw [cN]; simp
      have HR := Lib.hid hrow
      have HB := Lib.hid hbel
      have HS := Lib.hid hsz
      have HX := Lib.hid hx'
      clear hrow hbel hsz hx' cN ho hca haa hmk
      go_wp2
      go_roundw
      case rel =>
        refine ⟨k + 1, by omega, by go_num, (HR.out.set k _).congr fun j hj => ?_, HB.out.setCell (Nat.le_refl _) _, by simpa [World.setCell] using HS.out⟩
        by_cases e : j = k
        · subst e; simp [HX.out]
        · have h1 : (j < k + 1) = (j < k) := by apply propext; constructor <;> intro h <;> omega
          simp only [if_neg e, h1]
      case measure => simp [intOf]; omega
    · have HR := Lib.hid (hrow.congr (g := fun i => .int .i64 (xs.getD i 0)) fun i hi => by rw [if_pos (by omega)])
      have HB := Lib.hid hbel
      have HS := Lib.hid hsz
      clear hrow hbel hsz hmk
      go_wp2
      go_ret
      exact ⟨rfl, HR.out, HB.out, HS.out⟩

theorem info4 : (Try.prog.info? 4).map (fun i => (i.zero, i.size, i.bytes)) = some (some (.bool false), 1, 1) := by kernel_rfl

set_option maxHeartbeats 400000 in
theorem copyBools (xs : List Bool) (va : Value) (w : World) (B : Nat) (ha : Bools w B va xs) (hB : B ≤ w.heap.size) (hx : xs.length ≤ 1048576) :
    Calls Try.prog 37 #[va] w fun e w' => e = .returned (.slice (some ⟨w.heap.size, 0, none⟩) xs.length xs.length) ∧
      w'.rowIs w.heap.size 4 xs.length (fun i => .bool (xs.getD i false)) ∧ Below w.heap.size w w' ∧ w'.heap.size = w.heap.size + 1 := by
  obtain ⟨a, b, off, cap, rfl, hma, haa, hca⟩ := ha
  obtain ⟨n, hn⟩ : ∃ n, n = xs.length := ⟨_, rfl⟩
  rw [← hn] at hma hca haa hx
  rw [← hn]
  clear hma hn
  have hmk := run_make_row' (P := Try.prog) 22 4 (.bool false) 1 Try.underlying22 info4 rfl .i64 .i64 n (by omega) (by omega)
  go_enter Try.func37, Try.ntmps37
  go_wp2
  go_loopw [4] (fun i wr => ∃ k : Nat, k ≤ n ∧ i = .int .i64 k ∧ wr.rowIs w.heap.size 4 n (fun j => if j < k then .bool (xs.getD j false) else .bool false) ∧ Below w.heap.size w wr ∧ wr.heap.size = w.heap.size + 1) (fun i _ => n - (intOf i).toNat)
  case atStart =>
    exact ⟨0, Nat.zero_le _, rfl, (World.rowIs_made _ _ _ _).congr fun i hi => by simp, (Below.refl _ _).alloc (Nat.le_refl _) _, by simp⟩
  case round =>
    obtain ⟨k, hk, rfl, hrow, hbel, hsz⟩ := hrel
    by_cases hlt : k < n
    · obtain rfl := (haa (by omega)).1
      have hbB := (haa (by omega)).2
      have cA : wr.cell? ⟨b, off + k, none⟩ = some (.bool (xs.getD k false)) := (hbel.cell (p := ⟨b, off + k, none⟩) (by show b < _; omega)).trans (hca k hlt)
      obtain ⟨x, hx'⟩ : ∃ x, x = xs.getD k false := ⟨_, rfl⟩
      rw [← hx'] at cA
      have cN := hrow.cell hlt
      have fN := hrow.frozen k
      obtain ⟨o, ho⟩ : ∃ o, o = (if k < k then (Value.bool (xs.getD k false)) else .bool false) := ⟨_, rfl⟩
      have cN' : wr.cell? ⟨w.heap.size, k, none⟩ = some (.bool false) := by rw [cN]; simp
      have HR := Lib.hid hrow
      have HB := Lib.hid hbel
      have HS := Lib.hid hsz
      have HX := Lib.hid hx'
      clear hrow hbel hsz hx' cN ho hca haa hmk
      go_wp2
      go_roundw
      case rel =>
        refine ⟨k + 1, by omega, by go_num, (HR.out.set k _).congr fun j hj => ?_, HB.out.setCell (Nat.le_refl _) _, by simpa [World.setCell] using HS.out⟩
        by_cases e : j = k
        · subst e; simp [HX.out]
        · have h1 : (j < k + 1) = (j < k) := by apply propext; constructor <;> intro h <;> omega
          simp only [if_neg e, h1]
      case measure => simp [intOf]; omega
    · have HR := Lib.hid (hrow.congr (g := fun i => .bool (xs.getD i false)) fun i hi => by rw [if_pos (by omega)])
      have HB := Lib.hid hbel
      have HS := Lib.hid hsz
      clear hrow hbel hsz hmk
      go_wp2
      go_ret
      exact ⟨rfl, HR.out, HB.out, HS.out⟩

theorem info54 : (Try.prog.info? 44).map (fun i => (i.zero, i.size, i.bytes)) = some (some (.slice none 0 0), 1, 24) := by kernel_rfl

/-- The rows of a list of lists lie in blocks of their own, one behind the other, behind the block M of their heads. -/
def OwnRows (w : World) (M : Nat) (xss : List (List Int)) : Prop :=
  w.rowIs M 44 xss.length (fun i => .slice (some ⟨M + 1 + i, 0, none⟩) (xss.getD i []).length (xss.getD i []).length) ∧
  ∀ i, i < xss.length → w.rowIs (M + 1 + i) 2 (xss.getD i []).length (fun j => .int .i64 ((xss.getD i []).getD j 0))

theorem rowIs_below {w w' : World} {b t n B : Nat} {f : Nat → Value} (h : w.rowIs b t n f) (hb : Below B w w') (hB : b < B) : w'.rowIs b t n f :=
  h.of_block (hb.block b hB)

set_option maxHeartbeats 1000000 in
theorem copyRows (xss : List (List Int)) (va : Value) (w : World) (B : Nat) (ha : IntRows w B va xss) (hB : B ≤ w.heap.size) (hx : xss.length ≤ 1048576) (hxs : ∀ i, i < xss.length → (xss.getD i []).length ≤ 1048576) :
    Calls Try.prog 38 #[va] w fun e w' => e = .returned (.slice (some ⟨w.heap.size, 0, none⟩) xss.length xss.length) ∧
      OwnRows w' w.heap.size xss ∧ Below w.heap.size w w' ∧ w'.heap.size = w.heap.size + 1 + xss.length := by
  obtain ⟨U, ⟨a, b, off, cap, rfl, hma, haa, hca⟩, hU⟩ := ha
  obtain ⟨n, hn⟩ : ∃ n, n = xss.length := ⟨_, rfl⟩
  unfold OwnRows
  rw [← hn] at hma hca haa hx hU hxs
  rw [← hn]
  clear hma hn
  have hmk := run_make_row' (P := Try.prog) 23 44 (.slice none 0 0) 24 Try.underlying23 info54 rfl .i64 .i64 n (by omega) (by omega)
  go_enter Try.func38, Try.ntmps38
  go_wp2
  go_loopw [4] (fun i wr => ∃ k : Nat, k ≤ n ∧ i = .int .i64 k ∧ wr.rowIs w.heap.size 44 n (fun j => if j < k then .slice (some ⟨w.heap.size + 1 + j, 0, none⟩) (xss.getD j []).length (xss.getD j []).length else .slice none 0 0) ∧
      (∀ j, j < k → wr.rowIs (w.heap.size + 1 + j) 2 (xss.getD j []).length (fun i => .int .i64 ((xss.getD j []).getD i 0))) ∧ Below w.heap.size w wr ∧ wr.heap.size = w.heap.size + 1 + k) (fun i _ => n - (intOf i).toNat)
  case atStart =>
    exact ⟨0, Nat.zero_le _, rfl, (World.rowIs_made _ _ _ _).congr fun i hi => by simp, fun j hj => by omega, (Below.refl _ _).alloc (Nat.le_refl _) _, by simp⟩
  case round =>
    obtain ⟨k, hk, rfl, hrow, hrows, hbel, hsz⟩ := hrel
    by_cases hlt : k < n
    · obtain rfl := (haa (by omega)).1
      have hbB := (haa (by omega)).2
      have cA : wr.cell? ⟨b, off + k, none⟩ = some (U k) := (hbel.cell (p := ⟨b, off + k, none⟩) (by show b < _; omega)).trans (hca k hlt)
      have hUk := (hU k hlt).below hbel hB
      obtain ⟨x, hx'⟩ : ∃ x, x = xss.getD k [] := ⟨_, rfl⟩
      obtain ⟨u, hu'⟩ : ∃ u, u = U k := ⟨_, rfl⟩
      have hxl := hxs k hlt
      rw [← hu'] at cA hUk
      rw [← hx'] at hUk hxl
      have HU := Lib.hid hUk
      have HL := Lib.hid hxl
      have HR := Lib.hid hrow
      have HRS := Lib.hid hrows
      have HB := Lib.hid hbel
      have HS := Lib.hid hsz
      have HX := Lib.hid hx'
      have HBB := Lib.hid hB
      clear hrow hrows hbel hsz hx' hca haa hmk hU hUk hxl hxs hu' hB
      go_wp2_with fail
      refine (copyInts x u wr B HU.out (by have := HBB.out; have := HS.out; omega) HL.out).mono ?_
      rintro e w1 ⟨rfl, hr1, hb1, hs1⟩
      have hN : w.heap.size < wr.heap.size := by have := HS.out; omega
      have cN : w1.cell? ⟨w.heap.size, k, none⟩ = some (.slice none 0 0) := by
        rw [hb1.cell (p := ⟨w.heap.size, k, none⟩) hN, HR.out.cell hlt]; simp
      have fN : w1.frozen? ⟨w.heap.size, k, none⟩ = false := by
        rw [hb1.frozen (p := ⟨w.heap.size, k, none⟩) hN]; exact HR.out.frozen k
      have H1 := Lib.hid hr1
      have H2 := Lib.hid hb1
      have H3 := Lib.hid hs1
      clear hr1 hb1 hs1
      go_wp2
      go_roundw
      case rel =>
        have e1 := HS.out
        refine ⟨k + 1, by omega, by go_num, ((rowIs_below HR.out H2.out hN).set k _).congr fun j hj => ?_, fun j hj => ?_, (HB.out.trans (H2.out.mono (by omega))).setCell (Nat.le_refl _) _, ?_⟩
        · by_cases e : j = k
          · subst e; simp [HX.out, e1]
          · have h1 : (j < k + 1) = (j < k) := by apply propext; constructor <;> intro h <;> omega
            simp only [if_neg e, h1]
        · refine World.rowIs.setOther ?_ (by show _ ≠ w.heap.size; omega) _
          by_cases e : j = k
          · subst e; rw [← e1, ← HX.out]; exact H1.out
          · exact rowIs_below (HRS.out j (by omega)) H2.out (by omega)
        · have e3 := H3.out
          simp only [World.setCell, Array.size_modify]
          omega
      case measure => simp [intOf]; omega
    · have HR := Lib.hid (hrow.congr (g := fun i => .slice (some ⟨w.heap.size + 1 + i, 0, none⟩) (xss.getD i []).length (xss.getD i []).length) fun i hi => by rw [if_pos (by omega)])
      have HRS := Lib.hid hrows
      have HB := Lib.hid hbel
      have HS := Lib.hid hsz
      have HK := Lib.hid (show k = n by omega)
      clear hrow hrows hbel hsz hmk
      go_wp2
      go_ret
      exact ⟨rfl, ⟨HR.out, fun i hi => HRS.out i (by have := HK.out; omega)⟩, HB.out, by have := HK.out; have := HS.out; omega⟩
end Go.Proofs.Ytaebeglcoghehaa.Copy
/- Lists that a function makes and appends to: what they hold, what stays of them when other memory is written, and one law for appending one element.
   Conditions: stated at each theorem. -/
namespace Go.Proofs.Ytaebeglcoghehaa.Heap
set_option linter.unusedVariables false
set_option linter.unusedSimpArgs false
open Go.RowKit Mem Copy

/-- The slice value v is a list of the function's own with the elements xs, of one cell each. -/
def Lst (w : World) (B : Nat) (t : TypeId) (v : Value) (xs : List Value) : Prop := w.ownsRow B t 1 v xs.length xs

theorem size_alloc' (w : World) (o : Obj) : (w.alloc o).heap.size = w.heap.size + 1 := by simp
theorem Lst.nil (w : World) (B : Nat) (t : TypeId) : Lst w B t (.slice none 0 0) [] := World.ownsRow_nil w B t 1

theorem Lst.lt {w : World} {B : Nat} {t : TypeId} {v : Value} {xs : List Value} (h : Lst w B t v xs) {k : Nat} (hk : v.ownBlock = some k) : k < w.heap.size := (World.ownsRow.lt h k hk).2
theorem Lst.ge {w : World} {B : Nat} {t : TypeId} {v : Value} {xs : List Value} (h : Lst w B t v xs) {k : Nat} (hk : v.ownBlock = some k) : B ≤ k := (World.ownsRow.lt h k hk).1
theorem Lst.mono {w : World} {B C : Nat} {t : TypeId} {v : Value} {xs : List Value} (h : Lst w B t v xs) (hC : C ≤ B) : Lst w C t v xs := by
  refine ⟨h.1, ?_⟩
  rcases h.2 with h' | ⟨g, cap, cur, hv, hbg, r⟩
  · exact .inl h'
  · exact .inr ⟨g, cap, cur, hv, Nat.le_trans hC hbg, r⟩

theorem Lst.of_block {w w' : World} {B : Nat} {t : TypeId} {v : Value} {xs : List Value} (h : Lst w B t v xs) (hb : ∀ k, v.ownBlock = some k → w'.heap[k]? = w.heap[k]?) : Lst w' B t v xs := by
  refine ⟨h.1, ?_⟩
  rcases h.2 with h' | ⟨g, cap, cur, hv, hbg, hh, r⟩
  · exact .inl h'
  · refine .inr ⟨g, cap, cur, hv, hbg, ?_, r⟩
    rw [hb g (by rw [hv]; rfl)]; exact hh
theorem Lst.grown {w w' : World} {B : Nat} {t : TypeId} {v : Value} {xs : List Value} {row : Option Nat} (h : Lst w B t v xs) (hg : w.grownBy w' row) (hr : ∀ k, row = some k → v.ownBlock ≠ some k) : Lst w' B t v xs :=
  h.of_block fun k hk => hg.block k (h.lt hk) (fun e => hr k e.symm hk)
theorem Lst.below {w w' : World} {B : Nat} {t : TypeId} {v : Value} {xs : List Value} (h : Lst w B t v xs) (hb : Below w.heap.size w w') : Lst w' B t v xs :=
  h.of_block fun k hk => hb.block k (h.lt hk)
theorem Lst.alloc {w : World} {B : Nat} {t : TypeId} {v : Value} {xs : List Value} (h : Lst w B t v xs) (o : Obj) : Lst (w.alloc o) B t v xs := h.below ((Below.refl _ _).alloc (Nat.le_refl _) _)
theorem Lst.drew {w : World} {B : Nat} {t : TypeId} {v : Value} {xs : List Value} (h : Lst w B t v xs) : Lst w.drew B t v xs := h
theorem Lst.drewN {w : World} {B : Nat} {t : TypeId} {v : Value} {xs : List Value} (h : Lst w B t v xs) (m : Nat) : Lst (w.drewN m) B t v xs := h
theorem Lst.setOther {w : World} {B : Nat} {t : TypeId} {v : Value} {xs : List Value} (h : Lst w B t v xs) {a : Addr} (ha : v.ownBlock ≠ some a.block) (u : Value) : Lst (w.setCell a u) B t v xs :=
  h.of_block fun k hk => Below.heap_setCell _ _ _ _ (fun e => ha (by rw [← e]; exact hk))

/-- A list that is not empty lies in a block. -/
theorem Lst.view {w : World} {B : Nat} {t : TypeId} {v : Value} {xs : List Value} (h : Lst w B t v xs) (hn : 0 < xs.length) :
    ∃ g cap, v = .slice (some ⟨g, 0, none⟩) xs.length cap ∧ g < w.heap.size ∧ (∀ i (hi : i < xs.length), w.cell? ⟨g, i, none⟩ = some xs[i]) ∧ ∀ i, w.frozen? ⟨g, i, none⟩ = false := by
  rcases h.2 with ⟨rfl, h0⟩ | ⟨g, cap, cur, rfl, hbg, hh, hnc, hc, hs, ht⟩
  · omega
  · refine ⟨g, cap, rfl, lt_of_block hh, fun i hi => ?_, fun i => by simp [World.frozen?, hh]⟩
    have h1 : i < cur.size := by omega
    have h2 : xs[i] = cur.toList[i]'(by simpa using h1) := by
      have : xs = cur.toList.take (xs.length * 1) := ht.symm
      rw [List.getElem_of_eq this hi, List.getElem_take]
    rw [h2]
    simp [World.cell?, hh, h1]

theorem Lst.shape {w : World} {B : Nat} {t : TypeId} {v : Value} {xs : List Value} (h : Lst w B t v xs) : ∃ a cap, v = .slice a xs.length cap ∧ (0 < xs.length → ∃ g, a = some ⟨g, 0, none⟩) := by
  rcases h.2 with ⟨rfl, h0⟩ | ⟨g, cap, cur, rfl, hbg, hh, hnc, hc, hs, ht⟩
  · exact ⟨none, 0, by rw [h0], fun h => by omega⟩
  · exact ⟨_, _, rfl, fun _ => ⟨g, rfl⟩⟩

theorem Lst.shape' {w : World} {B : Nat} {t : TypeId} {v : Value} {xs : List Value} (h : Lst w B t v xs) : ∃ a n cap, v = .slice a n cap ∧ Hid (n = xs.length) := by
  obtain ⟨a, cap, hv, -⟩ := h.shape
  exact ⟨a, _, cap, hv, rfl⟩
theorem Lst.cellOf {w : World} {B : Nat} {t : TypeId} {g n cap : Nat} {xs : List Value} (h : Lst w B t (.slice (some ⟨g, 0, none⟩) n cap) xs) {i : Nat} (hi : i < xs.length) : w.cell? ⟨g, i, none⟩ = some xs[i] := by
  obtain ⟨g', cap', hv, -, hc, -⟩ := h.view (by omega)
  have e : (some (⟨g, 0, none⟩ : Addr)) = some ⟨g', 0, none⟩ := by injection hv
  cases e
  exact hc i hi
theorem Lst.free {w : World} {B : Nat} {t : TypeId} {g n cap : Nat} {xs : List Value} (h : Lst w B t (.slice (some ⟨g, 0, none⟩) n cap) xs) (i : Nat) : w.frozen? ⟨g, i, none⟩ = false := by
  rcases h.2 with ⟨h', h0⟩ | ⟨g', cap', cur, hv, hbg, hh, -⟩
  · cases h'
  · have e : (some (⟨g, 0, none⟩ : Addr)) = some ⟨g', 0, none⟩ := by injection hv
    cases e
    simp [World.frozen?, hh]
theorem Lst.addr {w : World} {B : Nat} {t : TypeId} {a : Option Addr} {n cap : Nat} {xs : List Value} (h : Lst w B t (.slice a n cap) xs) (hn : 0 < xs.length) : ∃ g, a = some ⟨g, 0, none⟩ ∧ g < w.heap.size := by
  obtain ⟨g', cap', hv, hl, -⟩ := h.view hn
  exact ⟨g', by injection hv, hl⟩

/-- A store into a list. -/
theorem Lst.set {w : World} {B : Nat} {t : TypeId} {g n cap : Nat} {xs : List Value} (h : Lst w B t (.slice (some ⟨g, 0, none⟩) n cap) xs) {i : Nat} (hi : i < xs.length) (u : Value) :
    Lst (w.setCell ⟨g, i, none⟩ u) B t (.slice (some ⟨g, 0, none⟩) n cap) (xs.set i u) := by
  rcases h.2 with ⟨h', h0⟩ | ⟨g', cap', cur, hv, hbg, hh, hnc, hc, hs, ht⟩
  · cases h'
  · cases hv
    refine ⟨by simp, .inr ⟨g, cap, cur.set i u (by omega), by simp, hbg, ?_, by simpa using hnc, hc, by simpa using hs, ?_⟩⟩
    · have hlt := lt_of_block hh
      have h' : w.heap[g] = .cells cur t (0, 0) := by simpa [Array.getElem?_eq_getElem hlt] using hh
      show (w.heap.modify g _)[g]? = _
      rw [Array.getElem?_eq_getElem (by simpa using hlt), Array.getElem_modify_self, h']
      have hic : i < cur.size := by omega
      simp [Array.setIfInBounds, hic]
    · rw [Array.toList_set, List.length_set, List.take_set, ht]

theorem Lst.reads {w : World} {B : Nat} {t : TypeId} {v : Value} {xs : List Value} (h : Lst w B t v xs) (C : Nat) (hB : w.heap.size ≤ C) (d : Value) : Sl w C v xs.length fun i => xs.getD i d := by
  rcases h.2 with ⟨rfl, h0⟩ | ⟨g, cap, cur, rfl, hbg, hh, hnc, hc, hs, ht⟩
  · exact ⟨none, 0, 0, 0, by rw [h0], by rw [h0]; exact Nat.zero_le _, fun h => by omega, fun i hi => by omega⟩
  · obtain ⟨g', cap', hv, hl, hcell, -⟩ | hz : (∃ g' cap', Value.slice (some ⟨g, 0, none⟩) xs.length cap = .slice (some ⟨g', 0, none⟩) xs.length cap' ∧ g' < w.heap.size ∧ (∀ i (hi : i < xs.length), w.cell? ⟨g', i, none⟩ = some xs[i]) ∧ ∀ i, w.frozen? ⟨g', i, none⟩ = false) ∨ ¬ 0 < xs.length := by
      by_cases hp : 0 < xs.length
      · exact .inl (Lst.view h hp)
      · exact .inr hp
    · cases hv
      exact ⟨_, g, 0, cap, rfl, by omega, fun _ => ⟨rfl, by omega⟩, fun i hi => by rw [Nat.zero_add, hcell i hi]; simp [List.getD, hi]⟩
    · exact ⟨_, g, 0, cap, rfl, by omega, fun h => absurd h hz, fun i hi => by omega⟩

/-- One element more. -/
structure Pushed (w w' : World) (B : Nat) (t : TypeId) (v v' : Value) (xs : List Value) (u : Value) : Prop where
  lst : Lst w' B t v' (xs ++ [u])
  grow : w.grownBy w' v.ownBlock
  at_ : v'.ownBlock = v.ownBlock ∨ ∃ g, v'.ownBlock = some g ∧ w.heap.size ≤ g

theorem grown_trans_alloc {w w' : World} {o : Obj} {row : Option Nat} (h : (w.alloc o).grownBy w' row) : w.grownBy w' row :=
  ⟨h.os, h.tape, h.output, by have := h.size; simp at this; omega, fun k hk hne => (h.block k (by simp; omega) hne).trans (Below.heap_alloc _ _ _ hk)⟩

/-- The law for appending one element, which has just been laid in a block of its own. -/
theorem wpList_push {P : Program} {w : World} {ops : Array Oper} {rest : List Oper} {o : Oper} {a : Act} {Q : Exit → Act → World → Prop} (hgd : o.guard = none) (s x : Operand) (t : TypeId)
    (ho : o.op = .call { callee := .builtin .append, args := #[s, x], argTypes := #[t, t] })
    (e : TypeId) (z : Value) (bytes : Nat) (ht : P.underlying t = some (.slice e)) (hinfo : (P.info? e).map (fun i => (i.zero, i.size, i.bytes)) = some (some z, 1, bytes)) (hzs : z.cells.size = 1) (hby : bytes ≤ 24)
    (B : Nat) (v : Value) (xs : List Value) (u : Value) (hown : Lst w B e v xs) (hB : B ≤ w.heap.size) (h1 : u.oneCell' = true) (hlen : xs.length ≤ 100000000) (hs : a.eval s = v) (N : Nat) (hx : a.eval x = .slice (some ⟨N, 0, none⟩) 1 1) (hN : w.heap.size = N)
    (h : ∀ v' w', Pushed w w' B e v v' xs u → wpList P ops Q rest (a.put o.dst v') w') : wpList P ops Q (o :: rest) a (w.alloc (.cells #[u] e)) := by
  obtain ⟨i, hi, hz, hsize, hbytes⟩ := info_parts hinfo
  subst hN
  refine wpList_append_own_at (P := P) _ hgd s x t ho B e i z 1 bytes ht hi hz hsize hbytes hzs (by decide) v xs.length xs hs (Lst.alloc hown _) ⟨w.heap.size, 0, none⟩ 1 1 [u] hx rfl ?_ ?_ (by unfold maxLen; omega) ?_ (by simp; omega) ?_
  · intro j u' hj
    cases j with
    | zero =>
      simp at hj; subst hj
      exact World.cell?_alloc_mark ..
    | succ j => simp at hj
  · intro u' hu
    rw [List.mem_singleton] at hu
    rw [hu]; exact h1
  · have : (xs.length + 1) * bytes ≤ 100000001 * 24 := Nat.mul_le_mul (by omega) hby
    omega
  · intro v' w' hown' hg _ hat
    refine h v' w' ⟨?_, grown_trans_alloc hg, ?_⟩
    · unfold Lst
      rw [List.length_append]
      exact hown'
    · rcases hat with e | e
      · exact .inl e
      · exact .inr ⟨_, e, by simp⟩

/-- The same, at a step of a region that draws its order. -/
theorem step_push {P : Program} {w : World} {ops : Array Oper} {o : Oper} {a : Act} {K : Act → World → Prop} {Q : Exit → Act → World → Prop} {E : Prop} (hgd : o.guard = none) (s x : Operand) (t : TypeId)
    (ho : o.op = .call { callee := .builtin .append, args := #[s, x], argTypes := #[t, t] })
    (e : TypeId) (z : Value) (bytes : Nat) (ht : P.underlying t = some (.slice e)) (hinfo : (P.info? e).map (fun i => (i.zero, i.size, i.bytes)) = some (some z, 1, bytes)) (hzs : z.cells.size = 1) (hby : bytes ≤ 24)
    (B : Nat) (v : Value) (xs : List Value) (u : Value) (hown : Lst w B e v xs) (hB : B ≤ w.heap.size) (h1 : u.oneCell' = true) (hlen : xs.length ≤ 100000000) (hs : a.eval s = v) (N : Nat) (hx : a.eval x = .slice (some ⟨N, 0, none⟩) 1 1) (hN : w.heap.size = N)
    (h : ∀ v' w', Pushed w w' B e v v' xs u → K (a.put o.dst v') w') :
    if Region.wanted o (yielded ops a.tmps) = true then Oper.wp P o a (w.alloc (.cells #[u] e)) K Q else E := by
  obtain ⟨i, hi, hz, hsize, hbytes⟩ := info_parts hinfo
  subst hN
  refine step_append_lies (P := P) (w := w.alloc (.cells #[u] e)) hgd s x t ho B e i z 1 bytes ht hi hz hsize hbytes hzs (by decide) v xs.length xs hs (Lst.alloc hown _) ⟨w.heap.size, 0, none⟩ 1 1 [u] hx rfl ?_ ?_ (by decide) (by unfold maxLen; omega) ?_ (by simp; omega) _ rfl ?_
  · intro j u' hj
    cases j with
    | zero =>
      simp at hj; subst hj
      exact World.cell?_alloc_mark ..
    | succ j => simp at hj
  · intro u' hu
    rw [List.mem_singleton] at hu
    rw [hu]; exact h1
  · have : (xs.length + 1) * bytes ≤ 100000001 * 24 := Nat.mul_le_mul (by omega) hby
    omega
  · intro g cap w' hown' hg hat hgl
    refine h _ w' ⟨?_, grown_trans_alloc hg, ?_⟩
    · unfold Lst
      rw [List.length_append]
      exact hown'
    · rcases hat with e | e
      · exact .inl (by rw [e]; rfl)
      · exact .inr ⟨g, rfl, by rw [e]; simp⟩

/-- A list in a block that has just been laid. -/
theorem Lst.made (w : World) (B : Nat) (t : TypeId) (z : Value) (n : Nat) (hB : B ≤ w.heap.size) (hn : n ≤ maxLen) :
    Lst (w.alloc (.cells (madeCells #[z] n) t)) B t (.slice (some ⟨w.heap.size, 0, none⟩) n n) (List.replicate n z) := by
  have h := (World.rowIs_made w z n t)
  obtain ⟨c, hc, hs, hf⟩ := h
  refine ⟨by simp, .inr ⟨w.heap.size, n, c, by simp, hB, hc, by simp, hn, by simpa using hs, ?_⟩⟩
  rw [List.length_replicate, Nat.mul_one]
  apply List.ext_getElem
  · simp [hs]
  · intro i h1 h2
    simp at h1 h2
    have := hf i (by omega)
    simp [Array.getElem?_eq_getElem (show i < c.size by omega)] at this
    simpa using this
theorem Lst.empty (w : World) (B : Nat) (t : TypeId) (hB : B ≤ w.heap.size) : Lst (w.alloc (.cells #[] t)) B t (.slice (some ⟨w.heap.size, 0, none⟩) 0 0) [] :=
  ⟨by simp, .inr ⟨w.heap.size, 0, #[], rfl, hB, heap_alloc_new w _, by simp, by unfold maxLen; omega, by simp, by simp⟩⟩
theorem Lst.one (w : World) (B : Nat) (t : TypeId) (u : Value) (hB : B ≤ w.heap.size) :
    Lst (w.alloc (.cells #[u] t)) B t (.slice (some ⟨w.heap.size, 0, none⟩) 1 1) [u] :=
  ⟨by simp, .inr ⟨w.heap.size, 1, #[u], rfl, hB, heap_alloc_new w _, by simp, by unfold maxLen; omega, by simp, by simp⟩⟩

theorem block_apart {w : World} {B : Nat} {t t' : TypeId} {v : Value} {xs : List Value} {k : Nat} {c : Array Value} {r : Nat × Nat} (h : Lst w B t v xs) (hb : w.heap[k]? = some (.cells c t' r)) (ht : t ≠ t') : v.ownBlock ≠ some k := by
  intro e
  rcases h.2 with ⟨rfl, -⟩ | ⟨g, cap, cur, rfl, hbg, hh, -⟩
  · cases e
  · cases e
    rw [hh] at hb
    cases hb
    exact ht rfl
theorem Lst.apart {w : World} {B B' : Nat} {t t' : TypeId} {v v' : Value} {xs xs' : List Value} (h : Lst w B t v xs) (h' : Lst w B' t' v' xs') (ht : t ≠ t') (k : Nat) (e : v.ownBlock = some k) : v'.ownBlock ≠ some k := by
  rcases h.2 with ⟨rfl, -⟩ | ⟨g, cap, cur, rfl, hbg, hh, -⟩
  · cases e
  · cases e
    exact block_apart h' hh (fun e => ht e.symm)

/-- A table of numbers. -/
def tv (n : Nat) (T : Nat → Int) : List Value := (List.range n).map fun i => Value.int .i64 (T i)
theorem tv_length (n : Nat) (T : Nat → Int) : (tv n T).length = n := by simp [tv]
theorem tv_get (n : Nat) (T : Nat → Int) {i : Nat} (h : i < (tv n T).length) : (tv n T)[i] = .int .i64 (T i) := by simp [tv]
theorem tv_set (n : Nat) (T : Nat → Int) (k : Nat) (x : Int) : (tv n T).set k (.int .i64 x) = tv n fun i => if i = k then x else T i := by
  apply List.ext_getElem
  · simp [tv]
  · intro i h1 h2
    rw [List.getElem_set, tv_get _ _ h2]
    by_cases e : k = i
    · subst e; simp
    · rw [if_neg e, if_neg (fun h : i = k => e h.symm), tv_get n T (by rw [List.length_set] at h1; exact h1)]
theorem tv_congr {n : Nat} {T S : Nat → Int} (h : ∀ i, i < n → T i = S i) : tv n T = tv n S := by
  unfold tv
  exact List.map_congr_left fun i hi => by rw [h i (List.mem_range.1 hi)]
theorem tv_rep (n : Nat) (x : Int) : List.replicate n (Value.int .i64 x) = tv n fun _ => x := by
  apply List.ext_getElem
  · simp [tv]
  · intro i h1 h2; simp [tv]
/-- A list of numbers. -/
def iv (l : List Nat) : List Value := l.map fun s : Nat => Value.int .i64 (s : Int)
theorem iv_length (l : List Nat) : (iv l).length = l.length := by simp [iv]
theorem iv_get (l : List Nat) {i : Nat} (h : i < (iv l).length) : (iv l)[i] = .int .i64 ((l.getD i 0 : Nat) : Int) := by rw [iv_length] at h; simp [iv, List.getD, h]
theorem getD_mem (l : List Nat) {i : Nat} (h : i < l.length) : l.getD i 0 ∈ l := by simp [List.getD, h]
theorem iv_push (l : List Nat) (x : Nat) : iv l ++ [Value.int .i64 (x : Int)] = iv (l ++ [x]) := by simp [iv]

/-- Lists of the function's own of elements of type t, in blocks of their own. -/
structure Own (w : World) (B : Nat) (t : TypeId) (items : List (Value × List Value)) : Prop where
  lst : ∀ p ∈ items, Lst w B t p.1 p.2
  apart : items.Pairwise fun p q => ∀ k, p.1.ownBlock = some k → q.1.ownBlock ≠ some k

theorem Own.nil (w : World) (B : Nat) (t : TypeId) : Own w B t [] := ⟨(fun _ h => by cases h), List.Pairwise.nil⟩
theorem Own.of_block {w w' : World} {B : Nat} {t : TypeId} {items : List (Value × List Value)} (h : Own w B t items) (hb : ∀ p ∈ items, ∀ k, p.1.ownBlock = some k → w'.heap[k]? = w.heap[k]?) : Own w' B t items :=
  ⟨fun p hp => (h.lst p hp).of_block (hb p hp), h.apart⟩
theorem Own.below {w w' : World} {B : Nat} {t : TypeId} {items : List (Value × List Value)} (h : Own w B t items) (hb : Below w.heap.size w w') : Own w' B t items :=
  ⟨fun p hp => (h.lst p hp).below hb, h.apart⟩
theorem Own.drew {w : World} {B : Nat} {t : TypeId} {items : List (Value × List Value)} (h : Own w B t items) : Own w.drew B t items := ⟨h.lst, h.apart⟩
theorem Own.drewN {w : World} {B : Nat} {t : TypeId} {items : List (Value × List Value)} (h : Own w B t items) (m : Nat) : Own (w.drewN m) B t items := ⟨h.lst, h.apart⟩
theorem Own.alloc {w : World} {B : Nat} {t : TypeId} {items : List (Value × List Value)} (h : Own w B t items) (o : Obj) : Own (w.alloc o) B t items := h.below ((Below.refl _ _).alloc (Nat.le_refl _) _)
theorem Own.grown {w w' : World} {B : Nat} {t : TypeId} {items : List (Value × List Value)} {row : Option Nat} (h : Own w B t items) (hg : w.grownBy w' row) (hr : ∀ k, row = some k → ∀ p ∈ items, p.1.ownBlock ≠ some k) : Own w' B t items :=
  ⟨fun p hp => (h.lst p hp).grown hg (fun k hk => hr k hk p hp), h.apart⟩
theorem Own.setOther {w : World} {B : Nat} {t t' : TypeId} {items : List (Value × List Value)} (h : Own w B t items) {a : Addr} {c : Array Value} {r : Nat × Nat} (hb : w.heap[a.block]? = some (.cells c t' r)) (ht : t ≠ t') (u : Value) : Own (w.setCell a u) B t items :=
  ⟨fun p hp => (h.lst p hp).setOther (block_apart (h.lst p hp) hb ht) u, h.apart⟩
theorem Own.add {w : World} {B : Nat} {t : TypeId} {items : List (Value × List Value)} (h : Own w B t items) {v : Value} {xs : List Value} (hl : Lst w B t v xs) (ha : ∀ p ∈ items, ∀ k, v.ownBlock = some k → p.1.ownBlock ≠ some k) : Own w B t ((v, xs) :: items) :=
  ⟨(fun p hp => by rcases List.mem_cons.1 hp with rfl | hp; exact hl; exact h.lst p hp), List.pairwise_cons.2 ⟨fun p hp => ha p hp, h.apart⟩⟩
/-- A list that is not in memory yet, or in a block behind all that there was. -/
theorem Own.addNew {w w' : World} {B : Nat} {t : TypeId} {items : List (Value × List Value)} (h : Own w B t items) (hb : Below w.heap.size w w') {v : Value} {xs : List Value} (hl : Lst w' B t v xs) (hn : ∀ k, v.ownBlock = some k → w.heap.size ≤ k) : Own w' B t ((v, xs) :: items) :=
  (h.below hb).add hl fun p hp k hk e => by have := (h.lst p hp).lt e; have := hn k hk; omega
theorem Own.drop1 {w : World} {B : Nat} {t : TypeId} {p : Value × List Value} {items : List (Value × List Value)} (h : Own w B t (p :: items)) : Own w B t items :=
  ⟨fun q hq => h.lst q (List.mem_cons_of_mem _ hq), (List.pairwise_cons.1 h.apart).2⟩

theorem pairwise_mid {α : Type} {R : α → α → Prop} (hs : ∀ a b, R a b → R b a) {l1 l2 : List α} {x y : α} (h : (l1 ++ x :: l2).Pairwise R) (hx : ∀ z ∈ l1 ++ l2, R x z → R y z) : (l1 ++ y :: l2).Pairwise R := by
  rw [List.pairwise_append, List.pairwise_cons] at h ⊢
  obtain ⟨h1, ⟨h2, h3⟩, h4⟩ := h
  refine ⟨h1, ⟨fun z hz => hx z (List.mem_append_right _ hz) (h2 z hz), h3⟩, fun a ha b hb => ?_⟩
  rcases List.mem_cons.1 hb with rfl | hb
  · exact hs _ _ (hx a (List.mem_append_left _ ha) (hs _ _ (h4 a ha _ List.mem_cons_self)))
  · exact h4 a ha b (List.mem_cons_of_mem _ hb)
theorem own_symm {p q : Value × List Value} (h : ∀ k, p.1.ownBlock = some k → q.1.ownBlock ≠ some k) : ∀ k, q.1.ownBlock = some k → p.1.ownBlock ≠ some k := fun k hk e => h k e hk
theorem pairwise_from {α : Type} {R : α → α → Prop} (hs : ∀ a b, R a b → R b a) {l1 l2 : List α} {x : α} (h : (l1 ++ x :: l2).Pairwise R) : ∀ z ∈ l1 ++ l2, R x z := by
  rw [List.pairwise_append, List.pairwise_cons] at h
  obtain ⟨h1, ⟨h2, h3⟩, h4⟩ := h
  intro z hz
  rcases List.mem_append.1 hz with hz | hz
  · exact hs _ _ (h4 z hz _ List.mem_cons_self)
  · exact h2 z hz

theorem Own.push {w w' : World} {B : Nat} {t : TypeId} (l1 l2 : List (Value × List Value)) {v v' : Value} {xs : List Value} {u : Value} (h : Own w B t (l1 ++ (v, xs) :: l2)) (hp : Pushed w w' B t v v' xs u) : Own w' B t (l1 ++ (v', xs ++ [u]) :: l2) := by
  have hf := pairwise_from (fun a b => own_symm) h.apart
  refine ⟨fun p hm => ?_, pairwise_mid (fun a b => own_symm) h.apart fun z hz hxz k hk e => ?_⟩
  · have hm' : p ∈ l1 ++ l2 ∨ p = (v', xs ++ [u]) := by
      rcases List.mem_append.1 hm with hm | hm
      · exact .inl (List.mem_append_left _ hm)
      · rcases List.mem_cons.1 hm with rfl | hm
        · exact .inr rfl
        · exact .inl (List.mem_append_right _ hm)
    rcases hm' with hm' | rfl
    · have hmi : p ∈ l1 ++ (v, xs) :: l2 := by
        rcases List.mem_append.1 hm' with hm' | hm'
        · exact List.mem_append_left _ hm'
        · exact List.mem_append_right _ (List.mem_cons_of_mem _ hm')
      exact (h.lst p hmi).grown hp.grow fun k hk => hf p hm' k hk
    · exact hp.lst
  · have hmi : z ∈ l1 ++ (v, xs) :: l2 := by
      rcases List.mem_append.1 hz with hz | hz
      · exact List.mem_append_left _ hz
      · exact List.mem_append_right _ (List.mem_cons_of_mem _ hz)
    rcases hp.at_ with e' | ⟨g, e', hg⟩
    · exact hf z hz k (by rw [← e']; exact hk) e
    · have h1 := (h.lst z hmi).lt e
      rw [e'] at hk
      cases hk
      omega
theorem Own.set {w : World} {B : Nat} {t : TypeId} (l1 l2 : List (Value × List Value)) {g n cap : Nat} {xs : List Value} (h : Own w B t (l1 ++ (.slice (some ⟨g, 0, none⟩) n cap, xs) :: l2)) {i : Nat} (hi : i < xs.length) (u : Value) :
    Own (w.setCell ⟨g, i, none⟩ u) B t (l1 ++ (.slice (some ⟨g, 0, none⟩) n cap, xs.set i u) :: l2) := by
  have hf := pairwise_from (fun a b => own_symm) h.apart
  refine ⟨fun p hm => ?_, pairwise_mid (fun a b => own_symm) h.apart fun z hz hxz => hxz⟩
  have hm' : p ∈ l1 ++ l2 ∨ p = (.slice (some ⟨g, 0, none⟩) n cap, xs.set i u) := by
    rcases List.mem_append.1 hm with hm | hm
    · exact .inl (List.mem_append_left _ hm)
    · rcases List.mem_cons.1 hm with rfl | hm
      · exact .inr rfl
      · exact .inl (List.mem_append_right _ hm)
  rcases hm' with hm' | rfl
  · have hmi : p ∈ l1 ++ (Value.slice (some ⟨g, 0, none⟩) n cap, xs) :: l2 := by
      rcases List.mem_append.1 hm' with hm' | hm'
      · exact List.mem_append_left _ hm'
      · exact List.mem_append_right _ (List.mem_cons_of_mem _ hm')
    exact (h.lst p hmi).setOther (hf p hm' g rfl) u
  · exact (h.lst _ (List.mem_append_right _ List.mem_cons_self)).set hi u
theorem Own.get {w : World} {B : Nat} {t : TypeId} (l1 l2 : List (Value × List Value)) {v : Value} {xs : List Value} (h : Own w B t (l1 ++ (v, xs) :: l2)) : Lst w B t v xs := h.lst (v, xs) (List.mem_append_right _ List.mem_cons_self)
end Go.Proofs.Ytaebeglcoghehaa.Heap
