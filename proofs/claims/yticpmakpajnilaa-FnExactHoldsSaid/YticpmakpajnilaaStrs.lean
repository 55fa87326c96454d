
/- Lists of texts in memory: how they are measured, copied and compared.
   Conditions: stated at each theorem. -/
import Derived.Test.YticpmakpajnilaaRel
import Derived.Deep.QuietTactic
import Derived.BigQuiet
namespace Go.Proofs.Yticpmakpajnilaa.Strs
open Go.RowKit Mem Copy Rel

/-- The slice value v reads as the texts ss, none of which is longer than a text can be; its row lies below block B. -/
def StrsAt (w : World) (B : Nat) (v : Value) (ss : List ByteArray) : Prop :=
  Sl w B v ss.length (fun i => .string (ss.getD i ByteArray.empty)) ∧ ∀ i, i < ss.length → (ss.getD i ByteArray.empty).size ≤ maxLen

theorem StrsAt.below {w w' : World} {B B' : Nat} {v : Value} {ss : List ByteArray} (h : StrsAt w B v ss) (hb : Below B' w w') (hB : B ≤ B') : StrsAt w' B v ss := ⟨h.1.below hb hB, h.2⟩
theorem StrsAt.mono {w : World} {B B' : Nat} {v : Value} {ss : List ByteArray} (h : StrsAt w B v ss) (hB : B ≤ B') : StrsAt w B' v ss := ⟨h.1.mono hB, h.2⟩

def szStrsTo : Int → List ByteArray → Int
  | left, [] => left
  | left, x :: r => if left < (x.size : Int) then -1 else szStrsTo (left - x.size) r
def szStrs (left : Int) (ss : List ByteArray) : Int := if left < (ss.length : Int) then -1 else szStrsTo (left - ss.length) ss

theorem szStrs_len {left : Int} {ss : List ByteArray} (h : 0 ≤ szStrs left ss) : (ss.length : Int) ≤ left := by
  unfold szStrs at h
  by_cases h1 : left < (ss.length : Int)
  · rw [if_pos h1] at h; omega
  · omega

set_option maxHeartbeats 1000000 in
theorem szStrings (ss : List ByteArray) (va : Value) (left : Int) (w : World) (B : Nat) (ha : StrsAt w B va ss) (h0 : 0 ≤ left) (h1 : left ≤ 1048576) :
    Calls Try.prog 28 #[va, .int .i64 left] w fun e w' => e = .returned (.int .i64 (szStrs left ss)) ∧ w = w' := by
  obtain ⟨⟨a, b, off, cap, rfl, hma, haa, hca⟩, hsz⟩ := ha
  obtain ⟨n, hn⟩ : ∃ n, n = ss.length := ⟨_, rfl⟩
  rw [← hn] at hma hca haa hsz
  unfold maxLen at hma hsz
  by_cases hbig : left < (n : Int)
  · have E := Lib.hid (show szStrs left ss = -1 by unfold szStrs; rw [if_pos (by omega)])
    have ht : left - (n : Int) < 0 := by omega
    rw [← hn]
    clear hn hca haa hsz
    go_enter Try.func28, Try.ntmps28
    go_wp2
    go_ret
    exact ⟨by rw [E.out]; rfl, rfl⟩
  · have E := Lib.hid (show szStrs left ss = szStrsTo (left - n) ss by unfold szStrs; rw [if_neg (by omega), hn])
    have ht : ¬ left - (n : Int) < 0 := by omega
    rw [← hn]
    have HN := Lib.hid hn
    clear hn
    go_enter Try.func28, Try.ntmps28
    go_wp2
    go_loop [1, 5] (fun l i => ∃ (k : Nat) (L : Int), k ≤ n ∧ i = .int .i64 k ∧ l = .int .i64 L ∧ 0 ≤ L ∧ L ≤ 1048576 ∧ szStrsTo (left - n) ss = szStrsTo L (ss.drop k)) (fun _ i => n - (intOf i).toNat)
    case atStart => exact ⟨0, left - n, Nat.zero_le _, rfl, rfl, by omega, by omega, rfl⟩
    case round =>
      obtain ⟨k, L, hk, rfl, rfl, hL0, hL1, hg⟩ := hrel
      have HG := Lib.hid hg
      clear hg ht
      by_cases hlt : k < n
      · obtain rfl := (haa (by omega)).1
        have cA := hca k hlt
        have hs := hsz k hlt
        obtain ⟨x, hx'⟩ : ∃ x, x = ss.getD k ByteArray.empty := ⟨_, rfl⟩
        rw [← hx'] at cA hs
        have HD := Lib.hid (drop_getD ss ByteArray.empty k (by rw [← HN.out]; exact hlt))
        have HX := Lib.hid hx'
        obtain ⟨p, hp⟩ : ∃ p, p = x.size := ⟨_, rfl⟩
        clear hca haa hsz hx'
        by_cases hc : L < (p : Int)
        · have ES := Lib.hid (show szStrs left ss = -1 by rw [E.out, HG.out, HD.out, szStrsTo, ← HX.out, ← hp, if_pos hc])
          have hn0 : L - (x.size : Int) < 0 := by omega
          clear hp hc
          go_wp2
          go_ret
          exact ⟨by rw [ES.out]; rfl, rfl⟩
        · have hn0 : ¬ L - (x.size : Int) < 0 := by omega
          have hn1 : L - (x.size : Int) ≤ 1048576 := by omega
          have HP := Lib.hid (show ¬ L < (x.size : Int) by omega)
          clear hp hc
          go_wp2
          go_round
          case rel => exact ⟨k + 1, L - x.size, by omega, by go_num, rfl, by omega, by omega, by rw [HG.out, HD.out, szStrsTo, ← HX.out, if_neg HP.out]⟩
          case measure => simp [intOf]; omega
      · have ES := Lib.hid (show szStrs left ss = L by rw [E.out, HG.out, List.drop_eq_nil_of_le (by have := HN.out; omega)]; rfl)
        clear hca haa hsz
        go_wp2
        go_ret
        exact ⟨by rw [ES.out]; rfl, rfl⟩

theorem info9 : (Try.prog.info? 9).map (fun i => (i.zero, i.size, i.bytes)) = some (some (.string ⟨#[]⟩), 1, 16) := by kernel_rfl

set_option maxHeartbeats 400000 in
theorem copyStrs (ss : List ByteArray) (va : Value) (w : World) (B : Nat) (ha : StrsAt w B va ss) (hB : B ≤ w.heap.size) (hx : ss.length ≤ 1048576) :
    Calls Try.prog 30 #[va] w fun e w' => e = .returned (.slice (some ⟨w.heap.size, 0, none⟩) ss.length ss.length) ∧
      w'.rowIs w.heap.size 9 ss.length (fun i => .string (ss.getD i ByteArray.empty)) ∧ Below w.heap.size w w' ∧ w'.heap.size = w.heap.size + 1 := by
  obtain ⟨⟨a, b, off, cap, rfl, hma, haa, hca⟩, -⟩ := ha
  obtain ⟨n, hn⟩ : ∃ n, n = ss.length := ⟨_, rfl⟩
  rw [← hn] at hma hca haa hx
  rw [← hn]
  clear hma hn
  have hmk := run_make_row' (P := Try.prog) 39 9 (.string ⟨#[]⟩) 16 Try.underlying39 info9 rfl .i64 .i64 n (by omega) (by omega)
  go_enter Try.func30, Try.ntmps30
  go_wp2
  go_loopw [4] (fun i wr => ∃ k : Nat, k ≤ n ∧ i = .int .i64 k ∧ wr.rowIs w.heap.size 9 n (fun j => if j < k then .string (ss.getD j ByteArray.empty) else .string ⟨#[]⟩) ∧ Below w.heap.size w wr ∧ wr.heap.size = w.heap.size + 1) (fun i _ => n - (intOf i).toNat)
  case atStart =>
    exact ⟨0, Nat.zero_le _, rfl, (World.rowIs_made _ _ _ _).congr fun i hi => by simp, (Below.refl _ _).alloc (Nat.le_refl _) _, by simp⟩
  case round =>
    obtain ⟨k, hk, rfl, hrow, hbel, hsz⟩ := hrel
    by_cases hlt : k < n
    · obtain rfl := (haa (by omega)).1
      have hbB := (haa (by omega)).2
      have cA : wr.cell? ⟨b, off + k, none⟩ = some (.string (ss.getD k ByteArray.empty)) := (hbel.cell (p := ⟨b, off + k, none⟩) (by show b < _; omega)).trans (hca k hlt)
      obtain ⟨x, hx'⟩ : ∃ x, x = ss.getD k ByteArray.empty := ⟨_, rfl⟩
      rw [← hx'] at cA
      have cN := hrow.cell hlt
      have fN := hrow.frozen k
      have cN' : wr.cell? ⟨w.heap.size, k, none⟩ = some (.string ⟨#[]⟩) := by rw [cN]; simp
      have HR := Lib.hid hrow
      have HB := Lib.hid hbel
      have HS := Lib.hid hsz
      have HX := Lib.hid hx'
      clear hrow hbel hsz hx' cN hca haa hmk
      go_wp2
      go_roundw
      case rel =>
        refine ⟨k + 1, by omega, by go_num, (HR.out.set k _).congr fun j hj => ?_, HB.out.setCell (Nat.le_refl _) _, by simpa [World.setCell] using HS.out⟩
        by_cases e : j = k
        · subst e; simp [HX.out]
        · have h1 : (j < k + 1) = (j < k) := by apply propext; constructor <;> intro h <;> omega
          simp only [if_neg e, h1]
      case measure => simp [intOf]; omega
    · have HR := Lib.hid (hrow.congr (g := fun i => .string (ss.getD i ByteArray.empty)) fun i hi => by rw [if_pos (by omega)])
      have HB := Lib.hid hbel
      have HS := Lib.hid hsz
      clear hrow hbel hsz hmk
      go_wp2
      go_ret
      exact ⟨rfl, HR.out, HB.out, HS.out⟩

theorem bytes_ne {x y : ByteArray} (h : ¬ x = y) : (x.toList == y.toList) = false := by
  rw [beq_eq_false_iff_ne]
  intro e
  rw [ByteArray.toList_eq, ByteArray.toList_eq] at e
  exact h (ByteArray.ext (Array.ext' e))

set_option maxHeartbeats 400000 in
theorem eqStrs (xs ys : List ByteArray) (va vb : Value) (w : World) (B : Nat) (ha : StrsAt w B va xs) (hb : StrsAt w B vb ys) :
    Calls Try.prog 33 #[va, vb] w fun e w' => e = .returned (.bool (same xs ys)) ∧ ∃ n, w' = w.drewN n := by
  obtain ⟨⟨a, ba, oa, ca, rfl, hma, haa, hca⟩, -⟩ := ha
  obtain ⟨⟨b, bb, ob, cb, rfl, hmb, hbb, hcb⟩, -⟩ := hb
  unfold maxLen at hma hmb
  by_cases hl : xs.length = ys.length
  · have HL := Lib.hid hl
    obtain ⟨n, hn⟩ : ∃ n, n = xs.length := ⟨_, rfl⟩
    have hn2 : ys.length = n := by omega
    rw [← hn, hn2]
    rw [← hn] at hma hca haa
    rw [hn2] at hcb hbb
    have HN := Lib.hid hn
    have HN2 := Lib.hid hn2
    clear hl hn hn2 hmb
    go_enter Try.func33, Try.ntmps33
    go_wp2
    go_loopw [5] (fun i wr => ∃ k m : Nat, k ≤ n ∧ i = .int .i64 k ∧ xs.take k = ys.take k ∧ wr = w.drewN m) (fun i _ => n - (intOf i).toNat)
    case atStart => exact ⟨0, 0, Nat.zero_le _, rfl, rfl, rfl⟩
    case round =>
      obtain ⟨k, m, hk, rfl, hg, rfl⟩ := hrel
      have HG := Lib.hid hg
      clear hg
      by_cases hlt : k < n
      · obtain rfl := (haa (by omega)).1
        obtain rfl := (hbb (by omega)).1
        clear haa hbb
        have cA := hca k hlt
        have cB := hcb k hlt
        obtain ⟨x, hx⟩ : ∃ x, x = xs.getD k ByteArray.empty := ⟨_, rfl⟩
        obtain ⟨y, hy⟩ : ∃ y, y = ys.getD k ByteArray.empty := ⟨_, rfl⟩
        rw [← hx] at cA
        rw [← hy] at cB
        by_cases he : x = y
        · have HY := Lib.hid (same_step xs ys ByteArray.empty k (by rw [← HN.out]; exact hlt) (by rw [HN2.out]; exact hlt) HG.out (by rw [← hx, ← hy, he]))
          clear hca hcb hx hy
          subst he
          go_wp2
          go_quiet (fail)
          go_wp2
          go_roundw
          case rel => exact ⟨k + 1, _, by omega, by go_num, HY.out, rfl⟩
          case measure => simp [intOf]; omega
        · have HS := Lib.hid (same_no xs ys ByteArray.empty k (by rw [← hx, ← hy]; exact he))
          have ht : (x.toList == y.toList) = false := bytes_ne he
          clear hca hcb hx hy
          go_wp2
          go_quiet (fail)
          go_wp2
          go_ret
          exact ⟨by rw [HS.out]; rfl, _, World.drewN_drewN ..⟩
      · have HE := Lib.hid (same_end xs ys k (by rw [← HN.out]; omega) HL.out HG.out)
        go_wp2
        go_ret
        exact ⟨by rw [HE.out]; rfl, _, rfl⟩
  · have HS := Lib.hid (same_len xs ys hl)
    have h1 : ((xs.length : Int) != (ys.length : Int)) = true := by rw [bne_iff_ne]; omega
    obtain ⟨p, hp⟩ : ∃ p : Nat, p = xs.length := ⟨_, rfl⟩
    obtain ⟨q, hq⟩ : ∃ q : Nat, q = ys.length := ⟨_, rfl⟩
    rw [← hp, ← hq] at h1
    rw [← hp, ← hq]
    clear hca hcb hl hma hmb hp hq haa hbb
    go_enter Try.func33, Try.ntmps33
    go_wp2
    go_ret
    exact ⟨by rw [HS.out]; rfl, 0, rfl⟩
end Go.Proofs.Yticpmakpajnilaa.Strs
