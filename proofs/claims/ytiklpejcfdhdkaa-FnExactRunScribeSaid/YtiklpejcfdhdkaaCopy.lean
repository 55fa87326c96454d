
/- What the functions that copy lists in memory hand back: new rows at the heap's end.
   Conditions: the lists are read as XMem's text says, and are not too long. -/
import Derived.Test.YtiklpejcfdhdkaaRows
import Derived.Test.YtiklpejcfdhdkaaMem
namespace Go.Proofs.Ytiklpejcfdhdkaa.Copy
set_option linter.unusedVariables false
set_option linter.unusedSimpArgs false
open Go.RowKit Mem

theorem info2 : (Try.prog.info? 2).map (fun i => (i.zero, i.size, i.bytes)) = some (some (.int .i64 0), 1, 8) := by kernel_rfl

theorem info4 : (Try.prog.info? 4).map (fun i => (i.zero, i.size, i.bytes)) = some (some (.bool false), 1, 1) := by kernel_rfl

set_option maxHeartbeats 400000 in
theorem copyBools (xs : List Bool) (va : Value) (w : World) (B : Nat) (ha : Bools w B va xs) (hB : B ≤ w.heap.size) (hx : xs.length ≤ 1048576) :
    Calls Try.prog 26 #[va] w fun e w' => e = .returned (.slice (some ⟨w.heap.size, 0, none⟩) xs.length xs.length) ∧
      w'.rowIs w.heap.size 4 xs.length (fun i => .bool (xs.getD i false)) ∧ Below w.heap.size w w' ∧ w'.heap.size = w.heap.size + 1 := by
  obtain ⟨a, b, off, cap, rfl, hma, haa, hca⟩ := ha
  obtain ⟨n, hn⟩ : ∃ n, n = xs.length := ⟨_, rfl⟩
  rw [← hn] at hma hca haa hx
  rw [← hn]
  clear hma hn
  have hmk := run_make_row' (P := Try.prog) 22 4 (.bool false) 1 Try.underlying22 info4 rfl .i64 .i64 n (by omega) (by omega)
  go_enter Try.func26, Try.ntmps26
  go_wp2
  go_loopw [4] (fun i wr => ∃ k : Nat, k ≤ n ∧ i = .int .i64 k ∧ wr.rowIs w.heap.size 4 n (fun j => if j < k then .bool (xs.getD j false) else .bool false) ∧ Below w.heap.size w wr ∧ wr.heap.size = w.heap.size + 1) (fun i _ => n - (intOf i).toNat)
  case atStart =>
    exact ⟨0, Nat.zero_le _, rfl, (World.rowIs_made _ _ _ _).congr fun i hi => by simp, (Below.refl _ _).alloc (Nat.le_refl _) _, by simp⟩
  case round =>
    obtain ⟨k, hk, rfl, hrow, hbel, hsz⟩ := hrel
    by_cases hlt : k < n
    · obtain rfl := (haa (by omega)).1
      have hbB := (haa (by omega)).2
      have cA : wr.cell? ⟨b, off + k, none⟩ = some (.bool (xs.getD k false)) := (hbel.cell (p := ⟨b, off + k, none⟩) (by show b < _; omega)).trans (hca k hlt)
      obtain ⟨x, hx'⟩ : ∃ x, x = xs.getD k false := ⟨_, rfl⟩
      rw [← hx'] at cA
      have cN := hrow.cell hlt
      have fN := hrow.frozen k
      obtain ⟨o, ho⟩ : ∃ o, o = (if k < k then (Value.bool (xs.getD k false)) else .bool false) := ⟨_, rfl⟩
      have cN' : wr.cell? ⟨w.heap.size, k, none⟩ = some (.bool false) := by rw [cN]; simp
      have HR := Lib.hid hrow
      have HB := Lib.hid hbel
      have HS := Lib.hid hsz
      have HX := Lib.hid hx'
      clear hrow hbel hsz hx' cN ho hca haa hmk
      go_wp2
      go_roundw
      case rel =>
        refine ⟨k + 1, by omega, by go_num, (HR.out.set k _).congr fun j hj => ?_, HB.out.setCell (Nat.le_refl _) _, by simpa [World.setCell] using HS.out⟩
        by_cases e : j = k
        · subst e; simp [HX.out]
        · have h1 : (j < k + 1) = (j < k) := by apply propext; constructor <;> intro h <;> omega
          simp only [if_neg e, h1]
      case measure => simp [intOf]; omega
    · have HR := Lib.hid (hrow.congr (g := fun i => .bool (xs.getD i false)) fun i hi => by rw [if_pos (by omega)])
      have HB := Lib.hid hbel
      have HS := Lib.hid hsz
      clear hrow hbel hsz hmk
      go_wp2
      go_ret
      exact ⟨rfl, HR.out, HB.out, HS.out⟩

theorem info54 : (Try.prog.info? 61).map (fun i => (i.zero, i.size, i.bytes)) = some (some (.slice none 0 0), 1, 24) := by kernel_rfl

/-- The rows of a list of lists lie in blocks of their own, one behind the other, behind the block M of their heads. -/
def OwnRows (w : World) (M : Nat) (xss : List (List Int)) : Prop :=
  w.rowIs M 61 xss.length (fun i => .slice (some ⟨M + 1 + i, 0, none⟩) (xss.getD i []).length (xss.getD i []).length) ∧
  ∀ i, i < xss.length → w.rowIs (M + 1 + i) 2 (xss.getD i []).length (fun j => .int .i64 ((xss.getD i []).getD j 0))

theorem rowIs_below {w w' : World} {b t n B : Nat} {f : Nat → Value} (h : w.rowIs b t n f) (hb : Below B w w') (hB : b < B) : w'.rowIs b t n f :=
  h.of_block (hb.block b hB)

end Go.Proofs.Ytiklpejcfdhdkaa.Copy
