
/- How a slice in memory reads as a list, and what of it stays when other memory is written; plain facts on lists that are compared element by element.
   Conditions: stated at each theorem. -/
import Derived.WalkKit
import Derived.ProofKit
import Derived.Lib.Hide
import Derived.Deep.OwnRows
import Derived.WalkSmall
import Derived.Test.YtaimealknkhfbaaDoorRows
import Derived.Deep.QuietTactic
import Derived.BigQuiet
namespace Go.Proofs.YtaimealknkhfbaaDoor.Mem
set_option linter.unusedVariables false
set_option linter.unusedSimpArgs false
open Go.RowKit

/-- The slice value v has n elements of one cell each; element i holds f i; its row lies below block B. -/
def Sl (w : World) (B : Nat) (v : Value) (n : Nat) (f : Nat → Value) : Prop :=
  ∃ a b off cap, v = .slice a n cap ∧ n ≤ maxLen ∧ (0 < n → a = some ⟨b, off, none⟩ ∧ b < B) ∧ ∀ i, i < n → w.cell? ⟨b, off + i, none⟩ = some (f i)

theorem Sl.below {w w' : World} {B B' : Nat} {v : Value} {n : Nat} {f : Nat → Value} (h : Sl w B v n f) (hb : Below B' w w') (hB : B ≤ B') : Sl w' B v n f := by
  obtain ⟨a, b, off, cap, hv, hm, ha, hc⟩ := h
  refine ⟨a, b, off, cap, hv, hm, ha, fun i hi => ?_⟩
  rw [hb.cell (p := ⟨b, off + i, none⟩) (by have := (ha (by omega)).2; show b < B'; omega)]
  exact hc i hi

theorem Sl.mono {w : World} {B B' : Nat} {v : Value} {n : Nat} {f : Nat → Value} (h : Sl w B v n f) (hB : B ≤ B') : Sl w B' v n f := by
  obtain ⟨a, b, off, cap, hv, hm, ha, hc⟩ := h
  exact ⟨a, b, off, cap, hv, hm, fun h => ⟨(ha h).1, Nat.lt_of_lt_of_le (ha h).2 hB⟩, hc⟩

theorem Sl.congr {w : World} {B : Nat} {v : Value} {n : Nat} {f g : Nat → Value} (h : Sl w B v n f) (e : ∀ i, i < n → f i = g i) : Sl w B v n g := by
  obtain ⟨a, b, off, cap, hv, hm, ha, hc⟩ := h
  exact ⟨a, b, off, cap, hv, hm, ha, fun i hi => by rw [hc i hi, e i hi]⟩

theorem Sl.drewN {w : World} {B : Nat} {v : Value} {n : Nat} {f : Nat → Value} (h : Sl w B v n f) (m : Nat) : Sl (w.drewN m) B v n f := h

theorem Sl.of_row {w : World} {b e n : Nat} {f : Nat → Value} (h : w.rowIs b e n f) (B : Nat) (hB : b < B) (hm : n ≤ maxLen) : Sl w B (.slice (some ⟨b, 0, none⟩) n n) n f :=
  ⟨_, b, 0, n, rfl, hm, fun _ => ⟨rfl, hB⟩, fun i hi => by rw [Nat.zero_add]; exact h.cell hi⟩

/-- Lists of numbers, of truth values, of lists of numbers, in memory. -/
def Ints (w : World) (B : Nat) (v : Value) (xs : List Int) : Prop := Sl w B v xs.length fun i => .int .i64 (xs.getD i 0)
def Bools (w : World) (B : Nat) (v : Value) (xs : List Bool) : Prop := Sl w B v xs.length fun i => .bool (xs.getD i false)
def IntRows (w : World) (B : Nat) (v : Value) (xss : List (List Int)) : Prop :=
  ∃ V : Nat → Value, Sl w B v xss.length V ∧ ∀ i, i < xss.length → Ints w B (V i) (xss.getD i [])

theorem Ints.below {w w' : World} {B B' : Nat} {v : Value} {xs : List Int} (h : Ints w B v xs) (hb : Below B' w w') (hB : B ≤ B') : Ints w' B v xs := Sl.below h hb hB
theorem Ints.mono {w : World} {B B' : Nat} {v : Value} {xs : List Int} (h : Ints w B v xs) (hB : B ≤ B') : Ints w B' v xs := Sl.mono h hB
theorem Bools.below {w w' : World} {B B' : Nat} {v : Value} {xs : List Bool} (h : Bools w B v xs) (hb : Below B' w w') (hB : B ≤ B') : Bools w' B v xs := Sl.below h hb hB
theorem Bools.mono {w : World} {B B' : Nat} {v : Value} {xs : List Bool} (h : Bools w B v xs) (hB : B ≤ B') : Bools w B' v xs := Sl.mono h hB
theorem IntRows.below {w w' : World} {B B' : Nat} {v : Value} {xss : List (List Int)} (h : IntRows w B v xss) (hb : Below B' w w') (hB : B ≤ B') : IntRows w' B v xss := by
  obtain ⟨V, h1, h2⟩ := h
  exact ⟨V, h1.below hb hB, fun i hi => (h2 i hi).below hb hB⟩
theorem IntRows.mono {w : World} {B B' : Nat} {v : Value} {xss : List (List Int)} (h : IntRows w B v xss) (hB : B ≤ B') : IntRows w B' v xss := by
  obtain ⟨V, h1, h2⟩ := h
  exact ⟨V, h1.mono hB, fun i hi => (h2 i hi).mono hB⟩

/-- A callee that only draws, met in a region behind other draws. -/
theorem quiet_drewN {P : Program} {f : FuncId} {args : Array Value} {w : World} {v : Value} {m x : Nat}
    (h : ∀ q, Calls P f args (w.drewN q) fun e w' => e = .returned v ∧ ∃ n, w' = (w.drewN q).drewN n) :
    Calls P f args (w.drewN (m + x)) fun e w'' => e = .returned v ∧ ∃ n, w'' = w.drewN (m + n) :=
  (h (m + x)).mono fun _ _ ⟨he, p, hp⟩ => ⟨he, x + p, by rw [hp, World.drewN_drewN, Nat.add_assoc]⟩

/-- The two lists are equal, told as a truth value. -/
def same {α : Type} [DecidableEq α] (xs ys : List α) : Bool := decide (xs = ys)

theorem take_succ_getD {α : Type} (xs : List α) (d : α) (k : Nat) (h : k < xs.length) : xs.take (k + 1) = xs.take k ++ [xs.getD k d] := by
  rw [List.take_succ_eq_append_getElem h]; simp [List.getD, h]

theorem same_step {α : Type} (xs ys : List α) (d : α) (k : Nat) (h : k < xs.length) (h' : k < ys.length) (g : xs.take k = ys.take k) (e : xs.getD k d = ys.getD k d) :
    xs.take (k + 1) = ys.take (k + 1) := by
  rw [take_succ_getD xs d k h, take_succ_getD ys d k h', g, e]

theorem same_no {α : Type} [DecidableEq α] (xs ys : List α) (d : α) (k : Nat) (e : ¬ xs.getD k d = ys.getD k d) : same xs ys = false := by
  unfold same; rw [decide_eq_false]; intro h; subst h; exact e rfl

theorem same_len {α : Type} [DecidableEq α] (xs ys : List α) (e : ¬ xs.length = ys.length) : same xs ys = false := by
  unfold same; rw [decide_eq_false]; intro h; subst h; exact e rfl

theorem same_end {α : Type} [DecidableEq α] (xs ys : List α) (k : Nat) (h : k = xs.length) (e : xs.length = ys.length) (g : xs.take k = ys.take k) : same xs ys = true := by
  unfold same
  rw [decide_eq_true]
  rw [List.take_of_length_le (by omega), List.take_of_length_le (by omega)] at g
  exact g

theorem same_self {α : Type} [DecidableEq α] (xs : List α) : same xs xs = true := by simp [same]

end Go.Proofs.YtaimealknkhfbaaDoor.Mem
/- What the functions that copy lists in memory hand back: new rows at the heap's end.
   Conditions: the lists are read as XMem's text says, and are not too long. -/
namespace Go.Proofs.YtaimealknkhfbaaDoor.Copy
set_option linter.unusedVariables false
set_option linter.unusedSimpArgs false
open Go.RowKit Mem

theorem info2 : (Tryd.prog.info? 2).map (fun i => (i.zero, i.size, i.bytes)) = some (some (.int .i64 0), 1, 8) := by kernel_rfl

set_option maxHeartbeats 400000 in
theorem copyInts (xs : List Int) (va : Value) (w : World) (B : Nat) (ha : Ints w B va xs) (hB : B ≤ w.heap.size) (hx : xs.length ≤ 1048576) :
    Calls Tryd.prog 36 #[va] w fun e w' => e = .returned (.slice (some ⟨w.heap.size, 0, none⟩) xs.length xs.length) ∧
      w'.rowIs w.heap.size 2 xs.length (fun i => .int .i64 (xs.getD i 0)) ∧ Below w.heap.size w w' ∧ w'.heap.size = w.heap.size + 1 := by
  obtain ⟨a, b, off, cap, rfl, hma, haa, hca⟩ := ha
  obtain ⟨n, hn⟩ : ∃ n, n = xs.length := ⟨_, rfl⟩
  rw [← hn] at hma hca haa hx
  rw [← hn]
  clear hma hn
  have hmk := run_make_row' (P := Tryd.prog) 52 2 (.int .i64 0) 8 Tryd.underlying52 info2 rfl .i64 .i64 n (by omega) (by omega)
  go_enter Tryd.func36, Tryd.ntmps36
  go_wp2
  go_loopw [4] (fun i wr => ∃ k : Nat, k ≤ n ∧ i = .int .i64 k ∧ wr.rowIs w.heap.size 2 n (fun j => if j < k then .int .i64 (xs.getD j 0) else .int .i64 0) ∧ Below w.heap.size w wr ∧ wr.heap.size = w.heap.size + 1) (fun i _ => n - (intOf i).toNat)
  case atStart =>
    exact ⟨0, Nat.zero_le _, rfl, (World.rowIs_made _ _ _ _).congr fun i hi => by simp, (Below.refl _ _).alloc (Nat.le_refl _) _, by simp⟩
  case round =>
    obtain ⟨k, hk, rfl, hrow, hbel, hsz⟩ := hrel
    by_cases hlt : k < n
    · obtain rfl := (haa (by omega)).1
      have hbB := (haa (by omega)).2
      have cA : wr.cell? ⟨b, off + k, none⟩ = some (.int .i64 (xs.getD k 0)) := (hbel.cell (p := ⟨b, off + k, none⟩) (by show b < _; omega)).trans (hca k hlt)
      obtain ⟨x, hx'⟩ : ∃ x, x = xs.getD k 0 := ⟨_, rfl⟩
      rw [← hx'] at cA
      have cN := hrow.cell hlt
      have fN := hrow.frozen k
      obtain ⟨o, ho⟩ : ∃ o, o = (if k < k then (Value.int .i64 (xs.getD k 0)) else .int .i64 0) := ⟨_, rfl⟩
      have cN' : wr.cell? ⟨w.heap.size, k, none⟩ = some (.int .i64 0) := by rw [cN]; simp
      have HR := Lib.hid hrow
      have HB := Lib.hid hbel
      have HS := Lib.hid hsz
      have HX := Lib.hid hx'
      clear hrow hbel hsz hx' cN ho hca haa hmk
      go_wp2
      go_roundw
      case rel =>
        refine ⟨k + 1, by omega, by go_num, (HR.out.set k _).congr fun j hj => ?_, HB.out.setCell (Nat.le_refl _) _, by simpa [World.setCell] using HS.out⟩
        by_cases e : j = k
        · subst e; simp [HX.out]
        · have h1 : (j < k + 1) = (j < k) := by apply propext; constructor <;> intro h <;> omega
          simp only [if_neg e, h1]
      case measure => simp [intOf]; omega
    · have HR := Lib.hid (hrow.congr (g := fun i => .int .i64 (xs.getD i 0)) fun i hi => by rw [if_pos (by omega)])
      have HB := Lib.hid hbel
      have HS := Lib.hid hsz
      clear hrow hbel hsz hmk
      go_wp2
      go_ret
      exact ⟨rfl, HR.out, HB.out, HS.out⟩

theorem info4 : (Tryd.prog.info? 4).map (fun i => (i.zero, i.size, i.bytes)) = some (some (.bool false), 1, 1) := by kernel_rfl

set_option maxHeartbeats 400000 in
theorem copyBools (xs : List Bool) (va : Value) (w : World) (B : Nat) (ha : Bools w B va xs) (hB : B ≤ w.heap.size) (hx : xs.length ≤ 1048576) :
    Calls Tryd.prog 17 #[va] w fun e w' => e = .returned (.slice (some ⟨w.heap.size, 0, none⟩) xs.length xs.length) ∧
      w'.rowIs w.heap.size 4 xs.length (fun i => .bool (xs.getD i false)) ∧ Below w.heap.size w w' ∧ w'.heap.size = w.heap.size + 1 := by
  obtain ⟨a, b, off, cap, rfl, hma, haa, hca⟩ := ha
  obtain ⟨n, hn⟩ : ∃ n, n = xs.length := ⟨_, rfl⟩
  rw [← hn] at hma hca haa hx
  rw [← hn]
  clear hma hn
  have hmk := run_make_row' (P := Tryd.prog) 22 4 (.bool false) 1 Tryd.underlying22 info4 rfl .i64 .i64 n (by omega) (by omega)
  go_enter Tryd.func17, Tryd.ntmps17
  go_wp2
  go_loopw [4] (fun i wr => ∃ k : Nat, k ≤ n ∧ i = .int .i64 k ∧ wr.rowIs w.heap.size 4 n (fun j => if j < k then .bool (xs.getD j false) else .bool false) ∧ Below w.heap.size w wr ∧ wr.heap.size = w.heap.size + 1) (fun i _ => n - (intOf i).toNat)
  case atStart =>
    exact ⟨0, Nat.zero_le _, rfl, (World.rowIs_made _ _ _ _).congr fun i hi => by simp, (Below.refl _ _).alloc (Nat.le_refl _) _, by simp⟩
  case round =>
    obtain ⟨k, hk, rfl, hrow, hbel, hsz⟩ := hrel
    by_cases hlt : k < n
    · obtain rfl := (haa (by omega)).1
      have hbB := (haa (by omega)).2
      have cA : wr.cell? ⟨b, off + k, none⟩ = some (.bool (xs.getD k false)) := (hbel.cell (p := ⟨b, off + k, none⟩) (by show b < _; omega)).trans (hca k hlt)
      obtain ⟨x, hx'⟩ : ∃ x, x = xs.getD k false := ⟨_, rfl⟩
      rw [← hx'] at cA
      have cN := hrow.cell hlt
      have fN := hrow.frozen k
      obtain ⟨o, ho⟩ : ∃ o, o = (if k < k then (Value.bool (xs.getD k false)) else .bool false) := ⟨_, rfl⟩
      have cN' : wr.cell? ⟨w.heap.size, k, none⟩ = some (.bool false) := by rw [cN]; simp
      have HR := Lib.hid hrow
      have HB := Lib.hid hbel
      have HS := Lib.hid hsz
      have HX := Lib.hid hx'
      clear hrow hbel hsz hx' cN ho hca haa hmk
      go_wp2
      go_roundw
      case rel =>
        refine ⟨k + 1, by omega, by go_num, (HR.out.set k _).congr fun j hj => ?_, HB.out.setCell (Nat.le_refl _) _, by simpa [World.setCell] using HS.out⟩
        by_cases e : j = k
        · subst e; simp [HX.out]
        · have h1 : (j < k + 1) = (j < k) := by apply propext; constructor <;> intro h <;> omega
          simp only [if_neg e, h1]
      case measure => simp [intOf]; omega
    · have HR := Lib.hid (hrow.congr (g := fun i => .bool (xs.getD i false)) fun i hi => by rw [if_pos (by omega)])
      have HB := Lib.hid hbel
      have HS := Lib.hid hsz
      clear hrow hbel hsz hmk
      go_wp2
      go_ret
      exact ⟨rfl, HR.out, HB.out, HS.out⟩

theorem info54 : (Tryd.prog.info? 52).map (fun i => (i.zero, i.size, i.bytes)) = some (some (.slice none 0 0), 1, 24) := by kernel_rfl

/-- The rows of a list of lists lie in blocks of their own, one behind the other, behind the block M of their heads. -/
def OwnRows (w : World) (M : Nat) (xss : List (List Int)) : Prop :=
  w.rowIs M 52 xss.length (fun i => .slice (some ⟨M + 1 + i, 0, none⟩) (xss.getD i []).length (xss.getD i []).length) ∧
  ∀ i, i < xss.length → w.rowIs (M + 1 + i) 2 (xss.getD i []).length (fun j => .int .i64 ((xss.getD i []).getD j 0))

theorem rowIs_below {w w' : World} {b t n B : Nat} {f : Nat → Value} (h : w.rowIs b t n f) (hb : Below B w w') (hB : b < B) : w'.rowIs b t n f :=
  h.of_block (hb.block b hB)

set_option maxHeartbeats 1000000 in
theorem copyRows (xss : List (List Int)) (va : Value) (w : World) (B : Nat) (ha : IntRows w B va xss) (hB : B ≤ w.heap.size) (hx : xss.length ≤ 1048576) (hxs : ∀ i, i < xss.length → (xss.getD i []).length ≤ 1048576) :
    Calls Tryd.prog 18 #[va] w fun e w' => e = .returned (.slice (some ⟨w.heap.size, 0, none⟩) xss.length xss.length) ∧
      OwnRows w' w.heap.size xss ∧ Below w.heap.size w w' ∧ w'.heap.size = w.heap.size + 1 + xss.length := by
  obtain ⟨U, ⟨a, b, off, cap, rfl, hma, haa, hca⟩, hU⟩ := ha
  obtain ⟨n, hn⟩ : ∃ n, n = xss.length := ⟨_, rfl⟩
  unfold OwnRows
  rw [← hn] at hma hca haa hx hU hxs
  rw [← hn]
  clear hma hn
  have hmk := run_make_row' (P := Tryd.prog) 23 52 (.slice none 0 0) 24 Tryd.underlying23 info54 rfl .i64 .i64 n (by omega) (by omega)
  go_enter Tryd.func18, Tryd.ntmps18
  go_wp2
  go_loopw [4] (fun i wr => ∃ k : Nat, k ≤ n ∧ i = .int .i64 k ∧ wr.rowIs w.heap.size 52 n (fun j => if j < k then .slice (some ⟨w.heap.size + 1 + j, 0, none⟩) (xss.getD j []).length (xss.getD j []).length else .slice none 0 0) ∧
      (∀ j, j < k → wr.rowIs (w.heap.size + 1 + j) 2 (xss.getD j []).length (fun i => .int .i64 ((xss.getD j []).getD i 0))) ∧ Below w.heap.size w wr ∧ wr.heap.size = w.heap.size + 1 + k) (fun i _ => n - (intOf i).toNat)
  case atStart =>
    exact ⟨0, Nat.zero_le _, rfl, (World.rowIs_made _ _ _ _).congr fun i hi => by simp, fun j hj => by omega, (Below.refl _ _).alloc (Nat.le_refl _) _, by simp⟩
  case round =>
    obtain ⟨k, hk, rfl, hrow, hrows, hbel, hsz⟩ := hrel
    by_cases hlt : k < n
    · obtain rfl := (haa (by omega)).1
      have hbB := (haa (by omega)).2
      have cA : wr.cell? ⟨b, off + k, none⟩ = some (U k) := (hbel.cell (p := ⟨b, off + k, none⟩) (by show b < _; omega)).trans (hca k hlt)
      have hUk := (hU k hlt).below hbel hB
      obtain ⟨x, hx'⟩ : ∃ x, x = xss.getD k [] := ⟨_, rfl⟩
      obtain ⟨u, hu'⟩ : ∃ u, u = U k := ⟨_, rfl⟩
      have hxl := hxs k hlt
      rw [← hu'] at cA hUk
      rw [← hx'] at hUk hxl
      have HU := Lib.hid hUk
      have HL := Lib.hid hxl
      have HR := Lib.hid hrow
      have HRS := Lib.hid hrows
      have HB := Lib.hid hbel
      have HS := Lib.hid hsz
      have HX := Lib.hid hx'
      have HBB := Lib.hid hB
      clear hrow hrows hbel hsz hx' hca haa hmk hU hUk hxl hxs hu' hB
      go_wp2_with fail
      refine (copyInts x u wr B HU.out (by have := HBB.out; have := HS.out; omega) HL.out).mono ?_
      rintro e w1 ⟨rfl, hr1, hb1, hs1⟩
      have hN : w.heap.size < wr.heap.size := by have := HS.out; omega
      have cN : w1.cell? ⟨w.heap.size, k, none⟩ = some (.slice none 0 0) := by
        rw [hb1.cell (p := ⟨w.heap.size, k, none⟩) hN, HR.out.cell hlt]; simp
      have fN : w1.frozen? ⟨w.heap.size, k, none⟩ = false := by
        rw [hb1.frozen (p := ⟨w.heap.size, k, none⟩) hN]; exact HR.out.frozen k
      have H1 := Lib.hid hr1
      have H2 := Lib.hid hb1
      have H3 := Lib.hid hs1
      clear hr1 hb1 hs1
      go_wp2
      go_roundw
      case rel =>
        have e1 := HS.out
        refine ⟨k + 1, by omega, by go_num, ((rowIs_below HR.out H2.out hN).set k _).congr fun j hj => ?_, fun j hj => ?_, (HB.out.trans (H2.out.mono (by omega))).setCell (Nat.le_refl _) _, ?_⟩
        · by_cases e : j = k
          · subst e; simp [HX.out, e1]
          · have h1 : (j < k + 1) = (j < k) := by apply propext; constructor <;> intro h <;> omega
            simp only [if_neg e, h1]
        · refine World.rowIs.setOther ?_ (by show _ ≠ w.heap.size; omega) _
          by_cases e : j = k
          · subst e; rw [← e1, ← HX.out]; exact H1.out
          · exact rowIs_below (HRS.out j (by omega)) H2.out (by omega)
        · have e3 := H3.out
          simp only [World.setCell, Array.size_modify]
          omega
      case measure => simp [intOf]; omega
    · have HR := Lib.hid (hrow.congr (g := fun i => .slice (some ⟨w.heap.size + 1 + i, 0, none⟩) (xss.getD i []).length (xss.getD i []).length) fun i hi => by rw [if_pos (by omega)])
      have HRS := Lib.hid hrows
      have HB := Lib.hid hbel
      have HS := Lib.hid hsz
      have HK := Lib.hid (show k = n by omega)
      clear hrow hrows hbel hsz hmk
      go_wp2
      go_ret
      exact ⟨rfl, ⟨HR.out, fun i hi => HRS.out i (by have := HK.out; omega)⟩, HB.out, by have := HK.out; have := HS.out; omega⟩
end Go.Proofs.YtaimealknkhfbaaDoor.Copy
/- What the functions that compare lists in memory answer.
   Conditions: the lists are read as XMem's text says. -/
namespace Go.Proofs.YtaimealknkhfbaaDoor.Equal
set_option linter.unusedVariables false
set_option linter.unusedSimpArgs false
open Go.RowKit Mem

set_option maxHeartbeats 400000 in
theorem eqInts (xs ys : List Int) (va vb : Value) (w : World) (B : Nat) (ha : Ints w B va xs) (hb : Ints w B vb ys) :
    Calls Tryd.prog 43 #[va, vb] w fun e w' => e = .returned (.bool (same xs ys)) ∧ ∃ n, w' = w.drewN n := by
  obtain ⟨a, ba, oa, ca, rfl, hma, haa, hca⟩ := ha
  obtain ⟨b, bb, ob, cb, rfl, hmb, hbb, hcb⟩ := hb
  unfold maxLen at hma hmb
  by_cases hl : xs.length = ys.length
  · have HL := Lib.hid hl
    obtain ⟨n, hn⟩ : ∃ n, n = xs.length := ⟨_, rfl⟩
    have hn2 : ys.length = n := by omega
    rw [← hn, hn2]
    rw [← hn] at hma hca haa
    rw [hn2] at hcb hbb
    have HN := Lib.hid hn
    have HN2 := Lib.hid hn2
    clear hl hn hn2 hmb
    go_enter Tryd.func43, Tryd.ntmps43
    go_wp2
    go_loopw [5] (fun i wr => ∃ k m : Nat, k ≤ n ∧ i = .int .i64 k ∧ xs.take k = ys.take k ∧ wr = w.drewN m) (fun i _ => n - (intOf i).toNat)
    case atStart => exact ⟨0, 0, Nat.zero_le _, rfl, rfl, rfl⟩
    case round =>
      obtain ⟨k, m, hk, rfl, hg, rfl⟩ := hrel
      have HG := Lib.hid hg
      clear hg
      by_cases hlt : k < n
      · obtain rfl := (haa (by omega)).1
        obtain rfl := (hbb (by omega)).1
        clear haa hbb
        have cA := hca k hlt
        have cB := hcb k hlt
        obtain ⟨x, hx⟩ : ∃ x, x = xs.getD k 0 := ⟨_, rfl⟩
        obtain ⟨y, hy⟩ : ∃ y, y = ys.getD k 0 := ⟨_, rfl⟩
        rw [← hx] at cA
        rw [← hy] at cB
        by_cases he : x = y
        · have HY := Lib.hid (same_step xs ys 0 k (by rw [← HN.out]; exact hlt) (by rw [HN2.out]; exact hlt) HG.out (by rw [← hx, ← hy, he]))
          have ht : (x != y) = false := by simp [he]
          clear hca hcb hx hy
          subst he
          clear ht
          go_wp2
          go_quiet (fail)
          go_wp2
          go_roundw
          case rel => exact ⟨k + 1, _, by omega, by go_num, HY.out, rfl⟩
          case measure => simp [intOf]; omega
        · have HS := Lib.hid (same_no xs ys 0 k (by rw [← hx, ← hy]; exact he))
          have ht : (x != y) = true := by rw [bne_iff_ne]; exact he
          clear hca hcb hx hy
          go_wp2
          go_quiet (fail)
          go_wp2
          go_ret
          exact ⟨by rw [HS.out]; rfl, _, World.drewN_drewN ..⟩
      · have HE := Lib.hid (same_end xs ys k (by rw [← HN.out]; omega) HL.out HG.out)
        go_wp2
        go_ret
        exact ⟨by rw [HE.out]; rfl, _, rfl⟩
  · have HS := Lib.hid (same_len xs ys hl)
    have h1 : ((xs.length : Int) != (ys.length : Int)) = true := by rw [bne_iff_ne]; omega
    obtain ⟨p, hp⟩ : ∃ p : Nat, p = xs.length := ⟨_, rfl⟩
    obtain ⟨q, hq⟩ : ∃ q : Nat, q = ys.length := ⟨_, rfl⟩
    rw [← hp, ← hq] at h1
    rw [← hp, ← hq]
    clear hca hcb hl hma hmb hp hq haa hbb
    go_enter Tryd.func43, Tryd.ntmps43
    go_wp2
    go_ret
    exact ⟨by rw [HS.out]; rfl, 0, rfl⟩
set_option maxHeartbeats 400000 in
theorem eqBools (xs ys : List Bool) (va vb : Value) (w : World) (B : Nat) (ha : Bools w B va xs) (hb : Bools w B vb ys) :
    Calls Tryd.prog 22 #[va, vb] w fun e w' => e = .returned (.bool (same xs ys)) ∧ ∃ n, w' = w.drewN n := by
  obtain ⟨a, ba, oa, ca, rfl, hma, haa, hca⟩ := ha
  obtain ⟨b, bb, ob, cb, rfl, hmb, hbb, hcb⟩ := hb
  unfold maxLen at hma hmb
  by_cases hl : xs.length = ys.length
  · have HL := Lib.hid hl
    obtain ⟨n, hn⟩ : ∃ n, n = xs.length := ⟨_, rfl⟩
    have hn2 : ys.length = n := by omega
    rw [← hn, hn2]
    rw [← hn] at hma hca haa
    rw [hn2] at hcb hbb
    have HN := Lib.hid hn
    have HN2 := Lib.hid hn2
    clear hl hn hn2 hmb
    go_enter Tryd.func22, Tryd.ntmps22
    go_wp2
    go_loopw [5] (fun i wr => ∃ k m : Nat, k ≤ n ∧ i = .int .i64 k ∧ xs.take k = ys.take k ∧ wr = w.drewN m) (fun i _ => n - (intOf i).toNat)
    case atStart => exact ⟨0, 0, Nat.zero_le _, rfl, rfl, rfl⟩
    case round =>
      obtain ⟨k, m, hk, rfl, hg, rfl⟩ := hrel
      have HG := Lib.hid hg
      clear hg
      by_cases hlt : k < n
      · obtain rfl := (haa (by omega)).1
        obtain rfl := (hbb (by omega)).1
        clear haa hbb
        have cA := hca k hlt
        have cB := hcb k hlt
        obtain ⟨x, hx⟩ : ∃ x, x = xs.getD k false := ⟨_, rfl⟩
        obtain ⟨y, hy⟩ : ∃ y, y = ys.getD k false := ⟨_, rfl⟩
        rw [← hx] at cA
        rw [← hy] at cB
        by_cases he : x = y
        · have HY := Lib.hid (same_step xs ys false k (by rw [← HN.out]; exact hlt) (by rw [HN2.out]; exact hlt) HG.out (by rw [← hx, ← hy, he]))
          clear hca hcb hx hy
          subst he
          have ht : (x != x) = false := by simp
          go_wp2
          go_quiet (fail)
          go_wp2
          go_roundw
          case rel => exact ⟨k + 1, _, by omega, by go_num, HY.out, rfl⟩
          case measure => simp [intOf]; omega
        · have HS := Lib.hid (same_no xs ys false k (by rw [← hx, ← hy]; exact he))
          have ht : (x == y) = false := by simpa using he
          clear hca hcb hx hy
          go_wp2
          go_quiet (fail)
          go_wp2
          go_ret
          exact ⟨by rw [HS.out]; rfl, _, World.drewN_drewN ..⟩
      · have HE := Lib.hid (same_end xs ys k (by rw [← HN.out]; omega) HL.out HG.out)
        go_wp2
        go_ret
        exact ⟨by rw [HE.out]; rfl, _, rfl⟩
  · have HS := Lib.hid (same_len xs ys hl)
    have h1 : ((xs.length : Int) != (ys.length : Int)) = true := by rw [bne_iff_ne]; omega
    obtain ⟨p, hp⟩ : ∃ p : Nat, p = xs.length := ⟨_, rfl⟩
    obtain ⟨q, hq⟩ : ∃ q : Nat, q = ys.length := ⟨_, rfl⟩
    rw [← hp, ← hq] at h1
    rw [← hp, ← hq]
    clear hca hcb hl hma hmb hp hq haa hbb
    go_enter Tryd.func22, Tryd.ntmps22
    go_wp2
    go_ret
    exact ⟨by rw [HS.out]; rfl, 0, rfl⟩
set_option maxHeartbeats 400000 in
theorem eqRows (xs ys : List (List Int)) (va vb : Value) (w : World) (B : Nat) (ha : IntRows w B va xs) (hb : IntRows w B vb ys) :
    Calls Tryd.prog 23 #[va, vb] w fun e w' => e = .returned (.bool (same xs ys)) ∧ ∃ n, w' = w.drewN n := by
  obtain ⟨U, ⟨a, ba, oa, ca, rfl, hma, haa, hca⟩, hU⟩ := ha
  obtain ⟨V, ⟨b, bb, ob, cb, rfl, hmb, hbb, hcb⟩, hV⟩ := hb
  unfold maxLen at hma hmb
  by_cases hl : xs.length = ys.length
  · have HL := Lib.hid hl
    obtain ⟨n, hn⟩ : ∃ n, n = xs.length := ⟨_, rfl⟩
    have hn2 : ys.length = n := by omega
    rw [← hn, hn2]
    rw [← hn] at hma hca haa hU
    rw [hn2] at hcb hbb hV
    have HN := Lib.hid hn
    have HN2 := Lib.hid hn2
    clear hl hn hn2 hmb
    go_enter Tryd.func23, Tryd.ntmps23
    go_wp2
    go_loopw [5] (fun i wr => ∃ k m : Nat, k ≤ n ∧ i = .int .i64 k ∧ xs.take k = ys.take k ∧ wr = w.drewN m) (fun i _ => n - (intOf i).toNat)
    case atStart => exact ⟨0, 0, Nat.zero_le _, rfl, rfl, rfl⟩
    case round =>
      obtain ⟨k, m, hk, rfl, hg, rfl⟩ := hrel
      have HG := Lib.hid hg
      clear hg
      by_cases hlt : k < n
      · obtain rfl := (haa (by omega)).1
        obtain rfl := (hbb (by omega)).1
        clear haa hbb
        have cA := hca k hlt
        have cB := hcb k hlt
        obtain ⟨x, hx⟩ : ∃ x, x = xs.getD k [] := ⟨_, rfl⟩
        obtain ⟨y, hy⟩ : ∃ y, y = ys.getD k [] := ⟨_, rfl⟩
        have uA := hU k hlt
        have uB := hV k hlt
        rw [← hx] at uA
        rw [← hy] at uB
        obtain ⟨u, hu⟩ : ∃ u, u = U k := ⟨_, rfl⟩
        obtain ⟨v, hv⟩ : ∃ v, v = V k := ⟨_, rfl⟩
        rw [← hu] at cA uA
        rw [← hv] at cB uB
        have UA := Lib.hid uA
        have UB := Lib.hid uB
        clear hu hv uA uB hU hV
        by_cases he : x = y
        · have HY := Lib.hid (same_step xs ys [] k (by rw [← HN.out]; exact hlt) (by rw [HN2.out]; exact hlt) HG.out (by rw [← hx, ← hy, he]))
          clear hca hcb hx hy
          subst he
          have HT := Lib.hid (same_self x)
          have HC := Lib.hid (fun q => (HT.out ▸ eqInts x x u v (w.drewN q) B UA.out UB.out : Calls Tryd.prog 43 #[u, v] (w.drewN q) fun e w' => e = .returned (.bool true) ∧ ∃ n, w' = (w.drewN q).drewN n))
          go_wp2
          go_quiet ((go_at_call 43; exact quiet_drewN HC.out))
          go_wp2
          go_roundw
          case rel => exact ⟨k + 1, _, by omega, by go_num, HY.out, rfl⟩
          case measure => simp [intOf]; omega
        · have HS := Lib.hid (same_no xs ys [] k (by rw [← hx, ← hy]; exact he))
          have HT := Lib.hid (show same x y = false by unfold same; simp [he])
          clear hca hcb hx hy
          have HC := Lib.hid (fun q => (HT.out ▸ eqInts x y u v (w.drewN q) B UA.out UB.out : Calls Tryd.prog 43 #[u, v] (w.drewN q) fun e w' => e = .returned (.bool false) ∧ ∃ n, w' = (w.drewN q).drewN n))
          go_wp2
          go_quiet ((go_at_call 43; exact quiet_drewN HC.out))
          go_wp2
          go_ret
          exact ⟨by rw [HS.out]; rfl, _, World.drewN_drewN ..⟩
      · have HE := Lib.hid (same_end xs ys k (by rw [← HN.out]; omega) HL.out HG.out)
        go_wp2
        go_ret
        exact ⟨by rw [HE.out]; rfl, _, rfl⟩
  · have HS := Lib.hid (same_len xs ys hl)
    have h1 : ((xs.length : Int) != (ys.length : Int)) = true := by rw [bne_iff_ne]; omega
    obtain ⟨p, hp⟩ : ∃ p : Nat, p = xs.length := ⟨_, rfl⟩
    obtain ⟨q, hq⟩ : ∃ q : Nat, q = ys.length := ⟨_, rfl⟩
    rw [← hp, ← hq] at h1
    rw [← hp, ← hq]
    clear hca hcb hl hma hmb hp hq haa hbb hU hV
    go_enter Tryd.func23, Tryd.ntmps23
    go_wp2
    go_ret
    exact ⟨by rw [HS.out]; rfl, 0, rfl⟩
end Go.Proofs.YtaimealknkhfbaaDoor.Equal
