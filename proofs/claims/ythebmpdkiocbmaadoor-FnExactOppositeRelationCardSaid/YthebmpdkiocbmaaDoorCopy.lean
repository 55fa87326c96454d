
/- What the functions that copy lists in memory hand back: new rows at the heap's end.
   Conditions: the lists are read as XMem's text says, and are not too long. -/
import Derived.Test.YthebmpdkiocbmaaDoorRows
import Derived.Test.YthebmpdkiocbmaaDoorMem
namespace Go.Proofs.YthebmpdkiocbmaaDoor.Copy
set_option linter.unusedVariables false
set_option linter.unusedSimpArgs false
open Go.RowKit Mem

theorem info2 : (Tryd.prog.info? 2).map (fun i => (i.zero, i.size, i.bytes)) = some (some (.int .i64 0), 1, 8) := by kernel_rfl

set_option maxHeartbeats 400000 in
theorem copyInts (xs : List Int) (va : Value) (w : World) (B : Nat) (ha : Ints w B va xs) (hB : B ≤ w.heap.size) (hx : xs.length ≤ 1048576) :
    Calls Tryd.prog 20 #[va] w fun e w' => e = .returned (.slice (some ⟨w.heap.size, 0, none⟩) xs.length xs.length) ∧
      w'.rowIs w.heap.size 2 xs.length (fun i => .int .i64 (xs.getD i 0)) ∧ Below w.heap.size w w' ∧ w'.heap.size = w.heap.size + 1 := by
  obtain ⟨a, b, off, cap, rfl, hma, haa, hca⟩ := ha
  obtain ⟨n, hn⟩ : ∃ n, n = xs.length := ⟨_, rfl⟩
  rw [← hn] at hma hca haa hx
  rw [← hn]
  clear hma hn
  have hmk := run_make_row' (P := Tryd.prog) 34 2 (.int .i64 0) 8 Tryd.underlying34 info2 rfl .i64 .i64 n (by omega) (by omega)
  go_enter Tryd.func20, Tryd.ntmps20
  go_wp2
  go_loopw [4] (fun i wr => ∃ k : Nat, k ≤ n ∧ i = .int .i64 k ∧ wr.rowIs w.heap.size 2 n (fun j => if j < k then .int .i64 (xs.getD j 0) else .int .i64 0) ∧ Below w.heap.size w wr ∧ wr.heap.size = w.heap.size + 1) (fun i _ => n - (intOf i).toNat)
  case atStart =>
    exact ⟨0, Nat.zero_le _, rfl, (World.rowIs_made _ _ _ _).congr fun i hi => by simp, (Below.refl _ _).alloc (Nat.le_refl _) _, by simp⟩
  case round =>
    obtain ⟨k, hk, rfl, hrow, hbel, hsz⟩ := hrel
    by_cases hlt : k < n
    · obtain rfl := (haa (by omega)).1
      have hbB := (haa (by omega)).2
      have cA : wr.cell? ⟨b, off + k, none⟩ = some (.int .i64 (xs.getD k 0)) := (hbel.cell (p := ⟨b, off + k, none⟩) (by show b < _; omega)).trans (hca k hlt)
      obtain ⟨x, hx'⟩ : ∃ x, x = xs.getD k 0 := ⟨_, rfl⟩
      rw [← hx'] at cA
      have cN := hrow.cell hlt
      have fN := hrow.frozen k
      obtain ⟨o, ho⟩ : ∃ o, o = (if k < k then (Value.int .i64 (xs.getD k 0)) else .int .i64 0) := ⟨_, rfl⟩
      have cN' : wr.cell? ⟨w.heap.size, k, none⟩ = some (.int .i64 0) := by rw [cN]; simp
      have HR := Lib.hid hrow
      have HB := Lib.hid hbel
      have HS := Lib.hid hsz
      have HX := Lib.hid hx'
      clear hrow hbel hsz hx' cN ho hca haa hmk
      go_wp2
      go_roundw
      case rel =>
        refine ⟨k + 1, by omega, by go_num, (HR.out.set k _).congr fun j hj => ?_, HB.out.setCell (Nat.le_refl _) _, by simpa [World.setCell] using HS.out⟩
        by_cases e : j = k
        · subst e; simp [HX.out]
        · have h1 : (j < k + 1) = (j < k) := by apply propext; constructor <;> intro h <;> omega
          simp only [if_neg e, h1]
      case measure => simp [intOf]; omega
    · have HR := Lib.hid (hrow.congr (g := fun i => .int .i64 (xs.getD i 0)) fun i hi => by rw [if_pos (by omega)])
      have HB := Lib.hid hbel
      have HS := Lib.hid hsz
      clear hrow hbel hsz hmk
      go_wp2
      go_ret
      exact ⟨rfl, HR.out, HB.out, HS.out⟩

theorem info4 : (Tryd.prog.info? 4).map (fun i => (i.zero, i.size, i.bytes)) = some (some (.bool false), 1, 1) := by kernel_rfl

set_option maxHeartbeats 400000 in
theorem copyBools (xs : List Bool) (va : Value) (w : World) (B : Nat) (ha : Bools w B va xs) (hB : B ≤ w.heap.size) (hx : xs.length ≤ 1048576) :
    Calls Tryd.prog 37 #[va] w fun e w' => e = .returned (.slice (some ⟨w.heap.size, 0, none⟩) xs.length xs.length) ∧
      w'.rowIs w.heap.size 4 xs.length (fun i => .bool (xs.getD i false)) ∧ Below w.heap.size w w' ∧ w'.heap.size = w.heap.size + 1 := by
  obtain ⟨a, b, off, cap, rfl, hma, haa, hca⟩ := ha
  obtain ⟨n, hn⟩ : ∃ n, n = xs.length := ⟨_, rfl⟩
  rw [← hn] at hma hca haa hx
  rw [← hn]
  clear hma hn
  have hmk := run_make_row' (P := Tryd.prog) 22 4 (.bool false) 1 Tryd.underlying22 info4 rfl .i64 .i64 n (by omega) (by omega)
  go_enter Tryd.func37, Tryd.ntmps37
  go_wp2
  go_loopw [4] (fun i wr => ∃ k : Nat, k ≤ n ∧ i = .int .i64 k ∧ wr.rowIs w.heap.size 4 n (fun j => if j < k then .bool (xs.getD j false) else .bool false) ∧ Below w.heap.size w wr ∧ wr.heap.size = w.heap.size + 1) (fun i _ => n - (intOf i).toNat)
  case atStart =>
    exact ⟨0, Nat.zero_le _, rfl, (World.rowIs_made _ _ _ _).congr fun i hi => by simp, (Below.refl _ _).alloc (Nat.le_refl _) _, by simp⟩
  case round =>
    obtain ⟨k, hk, rfl, hrow, hbel, hsz⟩ := hrel
    by_cases hlt : k < n
    · obtain rfl := (haa (by omega)).1
      have hbB := (haa (by omega)).2
      have cA : wr.cell? ⟨b, off + k, none⟩ = some (.bool (xs.getD k false)) := (hbel.cell (p := ⟨b, off + k, none⟩) (by show b < _; omega)).trans (hca k hlt)
      obtain ⟨x, hx'⟩ : ∃ x, x = xs.getD k false := ⟨_, rfl⟩
      rw [← hx'] at cA
      have cN := hrow.cell hlt
      have fN := hrow.frozen k
      obtain ⟨o, ho⟩ : ∃ o, o = (if k < k then (Value.bool (xs.getD k false)) else .bool false) := ⟨_, rfl⟩
      have cN' : wr.cell? ⟨w.heap.size, k, none⟩ = some (.bool false) := by rw [cN]; simp
      have HR := Lib.hid hrow
      have HB := Lib.hid hbel
      have HS := Lib.hid hsz
      have HX := Lib.hid hx'
      clear hrow hbel hsz hx' cN ho hca haa hmk
      go_wp2
      go_roundw
      case rel =>
        refine ⟨k + 1, by omega, by go_num, (HR.out.set k _).congr fun j hj => ?_, HB.out.setCell (Nat.le_refl _) _, by simpa [World.setCell] using HS.out⟩
        by_cases e : j = k
        · subst e; simp [HX.out]
        · have h1 : (j < k + 1) = (j < k) := by apply propext; constructor <;> intro h <;> omega
          simp only [if_neg e, h1]
      case measure => simp [intOf]; omega
    · have HR := Lib.hid (hrow.congr (g := fun i => .bool (xs.getD i false)) fun i hi => by rw [if_pos (by omega)])
      have HB := Lib.hid hbel
      have HS := Lib.hid hsz
      clear hrow hbel hsz hmk
      go_wp2
      go_ret
      exact ⟨rfl, HR.out, HB.out, HS.out⟩

theorem info54 : (Tryd.prog.info? 34).map (fun i => (i.zero, i.size, i.bytes)) = some (some (.slice none 0 0), 1, 24) := by kernel_rfl

/-- The rows of a list of lists lie in blocks of their own, one behind the other, behind the block M of their heads. -/
def OwnRows (w : World) (M : Nat) (xss : List (List Int)) : Prop :=
  w.rowIs M 34 xss.length (fun i => .slice (some ⟨M + 1 + i, 0, none⟩) (xss.getD i []).length (xss.getD i []).length) ∧
  ∀ i, i < xss.length → w.rowIs (M + 1 + i) 2 (xss.getD i []).length (fun j => .int .i64 ((xss.getD i []).getD j 0))

theorem rowIs_below {w w' : World} {b t n B : Nat} {f : Nat → Value} (h : w.rowIs b t n f) (hb : Below B w w') (hB : b < B) : w'.rowIs b t n f :=
  h.of_block (hb.block b hB)

set_option maxHeartbeats 1000000 in
theorem copyRows (xss : List (List Int)) (va : Value) (w : World) (B : Nat) (ha : IntRows w B va xss) (hB : B ≤ w.heap.size) (hx : xss.length ≤ 1048576) (hxs : ∀ i, i < xss.length → (xss.getD i []).length ≤ 1048576) :
    Calls Tryd.prog 38 #[va] w fun e w' => e = .returned (.slice (some ⟨w.heap.size, 0, none⟩) xss.length xss.length) ∧
      OwnRows w' w.heap.size xss ∧ Below w.heap.size w w' ∧ w'.heap.size = w.heap.size + 1 + xss.length := by
  obtain ⟨U, ⟨a, b, off, cap, rfl, hma, haa, hca⟩, hU⟩ := ha
  obtain ⟨n, hn⟩ : ∃ n, n = xss.length := ⟨_, rfl⟩
  unfold OwnRows
  rw [← hn] at hma hca haa hx hU hxs
  rw [← hn]
  clear hma hn
  have hmk := run_make_row' (P := Tryd.prog) 23 34 (.slice none 0 0) 24 Tryd.underlying23 info54 rfl .i64 .i64 n (by omega) (by omega)
  go_enter Tryd.func38, Tryd.ntmps38
  go_wp2
  go_loopw [4] (fun i wr => ∃ k : Nat, k ≤ n ∧ i = .int .i64 k ∧ wr.rowIs w.heap.size 34 n (fun j => if j < k then .slice (some ⟨w.heap.size + 1 + j, 0, none⟩) (xss.getD j []).length (xss.getD j []).length else .slice none 0 0) ∧
      (∀ j, j < k → wr.rowIs (w.heap.size + 1 + j) 2 (xss.getD j []).length (fun i => .int .i64 ((xss.getD j []).getD i 0))) ∧ Below w.heap.size w wr ∧ wr.heap.size = w.heap.size + 1 + k) (fun i _ => n - (intOf i).toNat)
  case atStart =>
    exact ⟨0, Nat.zero_le _, rfl, (World.rowIs_made _ _ _ _).congr fun i hi => by simp, fun j hj => by omega, (Below.refl _ _).alloc (Nat.le_refl _) _, by simp⟩
  case round =>
    obtain ⟨k, hk, rfl, hrow, hrows, hbel, hsz⟩ := hrel
    by_cases hlt : k < n
    · obtain rfl := (haa (by omega)).1
      have hbB := (haa (by omega)).2
      have cA : wr.cell? ⟨b, off + k, none⟩ = some (U k) := (hbel.cell (p := ⟨b, off + k, none⟩) (by show b < _; omega)).trans (hca k hlt)
      have hUk := (hU k hlt).below hbel hB
      obtain ⟨x, hx'⟩ : ∃ x, x = xss.getD k [] := ⟨_, rfl⟩
      obtain ⟨u, hu'⟩ : ∃ u, u = U k := ⟨_, rfl⟩
      have hxl := hxs k hlt
      rw [← hu'] at cA hUk
      rw [← hx'] at hUk hxl
      have HU := Lib.hid hUk
      have HL := Lib.hid hxl
      have HR := Lib.hid hrow
      have HRS := Lib.hid hrows
      have HB := Lib.hid hbel
      have HS := Lib.hid hsz
      have HX := Lib.hid hx'
      have HBB := Lib.hid hB
      clear hrow hrows hbel hsz hx' hca haa hmk hU hUk hxl hxs hu' hB
      go_wp2_with fail
      refine (copyInts x u wr B HU.out (by have := HBB.out; have := HS.out; omega) HL.out).mono ?_
      rintro e w1 ⟨rfl, hr1, hb1, hs1⟩
      have hN : w.heap.size < wr.heap.size := by have := HS.out; omega
      have cN : w1.cell? ⟨w.heap.size, k, none⟩ = some (.slice none 0 0) := by
        rw [hb1.cell (p := ⟨w.heap.size, k, none⟩) hN, HR.out.cell hlt]; simp
      have fN : w1.frozen? ⟨w.heap.size, k, none⟩ = false := by
        rw [hb1.frozen (p := ⟨w.heap.size, k, none⟩) hN]; exact HR.out.frozen k
      have H1 := Lib.hid hr1
      have H2 := Lib.hid hb1
      have H3 := Lib.hid hs1
      clear hr1 hb1 hs1
      go_wp2
      go_roundw
      case rel =>
        have e1 := HS.out
        refine ⟨k + 1, by omega, by go_num, ((rowIs_below HR.out H2.out hN).set k _).congr fun j hj => ?_, fun j hj => ?_, (HB.out.trans (H2.out.mono (by omega))).setCell (Nat.le_refl _) _, ?_⟩
        · by_cases e : j = k
          · subst e; simp [HX.out, e1]
          · have h1 : (j < k + 1) = (j < k) := by apply propext; constructor <;> intro h <;> omega
            simp only [if_neg e, h1]
        · refine World.rowIs.setOther ?_ (by show _ ≠ w.heap.size; omega) _
          by_cases e : j = k
          · subst e; rw [← e1, ← HX.out]; exact H1.out
          · exact rowIs_below (HRS.out j (by omega)) H2.out (by omega)
        · have e3 := H3.out
          simp only [World.setCell, Array.size_modify]
          omega
      case measure => simp [intOf]; omega
    · have HR := Lib.hid (hrow.congr (g := fun i => .slice (some ⟨w.heap.size + 1 + i, 0, none⟩) (xss.getD i []).length (xss.getD i []).length) fun i hi => by rw [if_pos (by omega)])
      have HRS := Lib.hid hrows
      have HB := Lib.hid hbel
      have HS := Lib.hid hsz
      have HK := Lib.hid (show k = n by omega)
      clear hrow hrows hbel hsz hmk
      go_wp2
      go_ret
      exact ⟨rfl, ⟨HR.out, fun i hi => HRS.out i (by have := HK.out; omega)⟩, HB.out, by have := HK.out; have := HS.out; omega⟩
end Go.Proofs.YthebmpdkiocbmaaDoor.Copy
