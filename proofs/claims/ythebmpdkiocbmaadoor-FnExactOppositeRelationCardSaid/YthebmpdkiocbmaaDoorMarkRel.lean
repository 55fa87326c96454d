
/- Relations that a law marks and looks at.
   Conditions: stated at each theorem. -/
import Derived.Test.YthebmpdkiocbmaaDoorMarkRows
import Derived.Test.YthebmpdkiocbmaaDoorHeap
namespace Go.Proofs.YthebmpdkiocbmaaDoor.MarkRel
set_option linter.unusedVariables false
set_option linter.unusedSimpArgs false
open Go.RowKit Mem Copy Rel MarkRow MarkBool MarkRows Heap

/-- A relation's lists in memory of their own. -/
structure RelF (w : World) (lo : Nat) (va vn : Value) (nb : Nat) (fb : Nat → Value) (N : Nat) (V : Nat → Value) (n : Nat → Nat) (f : Nat → Nat → Value) : Prop where
  acc : Row w lo 4 va nb fb
  nxt : RowsF w lo vn N V n f
theorem RelF.below {w w' : World} {lo : Nat} {va vn : Value} {nb : Nat} {fb : Nat → Value} {N : Nat} {V : Nat → Value} {n : Nat → Nat} {f : Nat → Nat → Value} (h : RelF w lo va vn nb fb N V n f) (hb : Below w.heap.size w w') : RelF w' lo va vn nb fb N V n f := ⟨h.acc.below hb, h.nxt.below hb⟩
theorem RelF.drewN {w : World} {lo : Nat} {va vn : Value} {nb : Nat} {fb : Nat → Value} {N : Nat} {V : Nat → Value} {n : Nat → Nat} {f : Nat → Nat → Value} (h : RelF w lo va vn nb fb N V n f) (m : Nat) : RelF (w.drewN m) lo va vn nb fb N V n f := ⟨h.acc.drewN m, h.nxt.drewN m⟩

/-- Their blocks. -/
def InRel (va : Value) (nb N : Nat) (V : Nat → Value) (n : Nat → Nat) (b : Nat) : Prop := (0 < nb ∧ va.ownBlock = some b) ∨ InRows N V n b

theorem RowsF.other {w w' : World} {lo : Nat} {vn : Value} {N : Nat} {V : Nat → Value} {n : Nat → Nat} {f : Nat → Nat → Value} {g m t : Nat} {F : Nat → Value} (h : RowsF w lo vn N V n f) (hg : w.grownBy w' (some g)) (hrow : w.rowIs g t m F) (h1 : t ≠ 2) (h2 : t ≠ 34) : RowsF w' lo vn N V n f := by
  refine ⟨Row.grownOff h.head hg fun hN k hk e => ?_, fun i hi => Row.grownOff (h.rows i hi) hg fun hn k hk e => ?_, h.apart⟩
  · obtain ⟨b', m', F', hb', -, hrow'⟩ := Row.owned h.head hN
    rw [hb'] at hk; cases hk; cases e
    exact rowIs_apart hrow hrow' h2 rfl
  · obtain ⟨b', m', F', hb', -, hrow'⟩ := Row.owned (h.rows i hi) hn
    rw [hb'] at hk; cases hk; cases e
    exact rowIs_apart hrow hrow' h1 rfl
theorem not_in {w : World} {lo lo' : Nat} {vn va : Value} {N nb : Nat} {V : Nat → Value} {n : Nat → Nat} {f : Nat → Nat → Value} {t : TypeId} {fb : Nat → Value} (h : RowsF w lo vn N V n f) (ha : Row w lo' t va nb fb) (ht : t ≠ 2) (hn : 0 < nb) (k : Nat) (hk : va.ownBlock = some k) : ¬ InRows N V n k := by
  rintro ⟨i, hi, h0, he⟩
  obtain ⟨b1, m1, F1, e1, -, r1⟩ := Row.owned ha hn
  obtain ⟨b2, m2, F2, e2, -, r2⟩ := Row.owned (h.rows i hi) h0
  rw [hk] at e1; cases e1
  rw [he] at e2; cases e2
  exact rowIs_apart r1 r2 ht rfl

theorem Only.alloc {S : Nat → Prop} (w : World) (o : Obj) : Only S w (w.alloc o) := ⟨rfl, rfl, rfl, by simp, fun b hb _ => Below.heap_alloc _ _ _ hb⟩
theorem not_size {w : World} {lo : Nat} {va vn : Value} {nb : Nat} {fb : Nat → Value} {N : Nat} {V : Nat → Value} {n : Nat → Nat} {f : Nat → Nat → Value} (h : RelF w lo va vn nb fb N V n f) : ¬ InRel va nb N V n w.heap.size := by
  rintro (⟨h0, he⟩ | ⟨i, hi, h0, he⟩)
  · obtain ⟨b, m, F, e, -, r⟩ := Row.owned h.acc h0
    rw [he] at e; cases e
    exact Nat.lt_irrefl _ r.lt
  · obtain ⟨b, m, F, e, -, r⟩ := Row.owned (h.nxt.rows i hi) h0
    rw [he] at e; cases e
    exact Nat.lt_irrefl _ r.lt

set_option maxHeartbeats 2000000 in
theorem markRel (t s : Int) (va vn : Value) (nb : Nat) (fb : Nat → Value) (N : Nat) (V : Nat → Value) (n : Nat → Nat) (f : Nat → Nat → Value) (k : Nat) (lo : Nat) (w : World) (h : RelF w lo va vn nb fb N V n f) (hlo : lo ≤ w.heap.size) (hN : N ≤ 1048576) (hk0 : k ≤ 1048577) (hnb : nb ≤ 1048576) (hk : 0 < N → k + nb + sumTo n N ≤ 1048576) :
    Calls Tryd.prog 15 #[.agg #[.int .i64 t, .int .i64 s, va, vn], .int .i64 k] w fun e w' => e = .returned (.int .i64 ((k + nb + sumTo n N : Nat) : Int)) ∧ RelF w' lo va vn nb (fun i => .bool (markB (k + i))) N V n (fun i c => .int .i64 ((k + nb + sumTo n i + c : Nat) : Int)) ∧ Only (InRel va nb N V n) w w' := by
  have HSZ := Lib.hid (not_size h)
  obtain ⟨W, hW⟩ : ∃ W, W = w.alloc (.cells #[.int .i64 t, .int .i64 s, va, vn] 27) := ⟨_, rfl⟩
  have HW := Lib.hid (show Only (InRel va nb N V n) w W by rw [hW]; exact Only.alloc _ _)
  have HF := Lib.hid (show RelF W lo va vn nb fb N V n f by rw [hW]; exact h.below ((Below.refl _ _).alloc (Nat.le_refl _) _))
  have HBX := Lib.hid (show W.heap[w.heap.size]? = some (.cells #[.int .i64 t, .int .i64 s, va, vn] 27 (0, 0)) by rw [hW]; exact heap_alloc_new _ _)
  have HM := Lib.hid (markBools va nb fb k lo W HF.out.acc (by omega) (by omega))
  obtain ⟨aa, ca, rfl, -⟩ := h.acc
  obtain ⟨ab, cb, rfl, -⟩ := h.nxt.head
  clear h
  go_enter Tryd.func15, Tryd.ntmps15
  go_wp2_with fail
  rw [← hW]
  clear hW
  refine HM.out.mono ?_
  rintro e w1 ⟨rfl, hr, hg⟩
  have H1 := Lib.hid (show RowsF w1 lo (.slice ab N cb) N V n f ∧ Only (InRel (.slice aa nb ca) nb N V n) W w1 from by
    rcases hg with ⟨h0, hg⟩ | rfl
    · obtain ⟨b, m, F, hb, -, hrow⟩ := Row.owned HF.out.acc h0
      rw [hb] at hg
      exact ⟨RowsF.other HF.out.nxt hg hrow (by decide) (by decide), Only.of_grown hg fun b' e => by cases e; exact .inl ⟨h0, hb⟩⟩
    · exact ⟨HF.out.nxt, Only.refl _ _⟩)
  have hbx : w1.heap[w.heap.size]? = some (.cells #[.int .i64 t, .int .i64 s, .slice aa nb ca, .slice ab N cb] 27 (0, 0)) := (H1.out.2.block _ (lt_of_block HBX.out) HSZ.out).trans HBX.out
  have q3 : w1.cell? ⟨w.heap.size, 3, none⟩ = some (.slice ab N cb) := by simp [World.cell?, hbx]
  have hlb := lt_of_block hbx
  clear hbx
  have H2 := Lib.hid hr
  have HS := Lib.hid (show lo ≤ w1.heap.size from Nat.le_trans hlo (Nat.le_trans HW.out.size H1.out.2.size))
  clear hr hg HM
  have HR := Lib.hid (markRows (.slice ab N cb) N V n f (k + nb) lo w1 H1.out.1 HS.out hN (fun h => by have := hk h; omega) (by omega))
  go_wp2_with fail
  refine HR.out.mono ?_
  rintro e w2 ⟨rfl, hr, ho⟩
  have H3 := Lib.hid hr
  have H4 := Lib.hid ho
  clear hr ho HR
  go_wp2_with fail
  go_ret
  exact ⟨rfl, ⟨Row.only H2.out H4.out fun h0 k' hk' => not_in H1.out.1 H2.out (by decide) h0 k' hk', H3.out⟩, HW.out.trans (H1.out.2.trans (H4.out.mono fun b hb => .inr hb))⟩

set_option maxHeartbeats 2000000 in
theorem heldRel (t s : Int) (va vn : Value) (nb : Nat) (N : Nat) (V : Nat → Value) (n : Nat → Nat) (k : Nat) (lo : Nat) (w : World) (h : RelF w lo va vn nb (fun i => .bool (markB (k + i))) N V n (fun i c => .int .i64 ((k + nb + sumTo n i + c : Nat) : Int))) (hN : N ≤ 1048576) (hk0 : k ≤ 1048576) (hnb : nb ≤ 1048576) (hk : 0 < N → k + nb + sumTo n N ≤ 1048576) :
    Calls Tryd.prog 16 #[.agg #[.int .i64 t, .int .i64 s, va, vn], .int .i64 k] w fun e w' => e = .returned (.int .i64 ((k + nb + sumTo n N : Nat) : Int)) ∧ Below w.heap.size w w' := by
  have HH := Lib.hid (show RelF (w.alloc (.cells #[.int .i64 t, .int .i64 s, va, vn] 27)) lo va vn nb (fun i => .bool (markB (k + i))) N V n (fun i c => .int .i64 ((k + nb + sumTo n i + c : Nat) : Int)) from h.below ((Below.refl _ _).alloc (Nat.le_refl _) _))
  have HM := Lib.hid (heldBools va nb k _ _ (HH.out.acc.reads (by unfold maxLen; omega)) (by omega) (by omega))
  have HR := Lib.hid (heldRows vn N V n (k + nb) lo _ HH.out.nxt hN (fun h => by have := hk h; omega) (by omega))
  obtain ⟨aa, ca, rfl, -⟩ := h.acc
  obtain ⟨ab, cb, rfl, -⟩ := h.nxt.head
  clear h
  go_enter Tryd.func16, Tryd.ntmps16
  go_wp2_with fail
  refine HM.out.mono ?_
  rintro e w1 ⟨rfl, rfl⟩
  go_wp2_with fail
  refine HR.out.mono ?_
  rintro e w1 ⟨rfl, rfl⟩
  go_wp2_with fail
  go_ret
  exact ⟨rfl, (Below.refl _ _).alloc (Nat.le_refl _) _⟩
end Go.Proofs.YthebmpdkiocbmaaDoor.MarkRel
