
/- Rows of rows of numbers that a law marks and looks at.
   Conditions: stated at each theorem. -/
import Derived.Test.YtjoiaenkmmmmpaaMarkBool
namespace Go.Proofs.Ytjoiaenkmmmmpaa.MarkRows
set_option linter.unusedVariables false
set_option linter.unusedSimpArgs false
open Go.RowKit Mem Copy Rel MarkRow MarkBool

def sumTo (n : Nat → Nat) : Nat → Nat
  | 0 => 0
  | j + 1 => sumTo n j + n j
theorem sumTo_mono (n : Nat → Nat) {i j : Nat} (h : i ≤ j) : sumTo n i ≤ sumTo n j := by
  obtain ⟨q, rfl⟩ : ∃ q, j = i + q := ⟨j - i, by omega⟩
  clear h
  induction q with
  | zero => exact Nat.le_refl _
  | succ q ih => exact Nat.le_trans ih (by show sumTo n (i + q) ≤ sumTo n (i + q) + n (i + q); omega)

/-- vn is a row of N rows V i, each of n i numbers, pairwise apart; entry c of row i holds f i c. -/
structure RowsF (w : World) (lo : Nat) (vn : Value) (N : Nat) (V : Nat → Value) (n : Nat → Nat) (f : Nat → Nat → Value) : Prop where
  head : Row w lo 95 vn N V
  rows : ∀ i, i < N → Row w lo 2 (V i) (n i) (f i)
  apart : ∀ i j, i < N → j < N → i ≠ j → 0 < n i → 0 < n j → ∀ k, (V i).ownBlock = some k → (V j).ownBlock ≠ some k

theorem rowIs_apart {w : World} {g h t t' m m' : Nat} {F G : Nat → Value} (h1 : w.rowIs g t m F) (h2 : w.rowIs h t' m' G) (ht : t ≠ t') : g ≠ h := by
  obtain ⟨c1, e1, -⟩ := h1
  obtain ⟨c2, e2, -⟩ := h2
  intro e
  subst e
  rw [e1] at e2
  injection e2 with e2
  injection e2 with e3 e4
  exact ht e4
theorem Row.grownOff {w w' : World} {lo : Nat} {t : TypeId} {v : Value} {n : Nat} {f : Nat → Value} {row : Option Nat} (h : Row w lo t v n f) (hg : w.grownBy w' row) (hne : 0 < n → ∀ k, v.ownBlock = some k → row ≠ some k) : Row w' lo t v n f := by
  obtain ⟨a, cap, rfl, h⟩ := h
  exact ⟨a, cap, rfl, fun hn => by
    obtain ⟨g, m, F, rfl, h2, h3, h4, h5⟩ := h hn
    exact ⟨g, m, F, rfl, h2, h3, h4.of_block (hg.block g h4.lt (fun e => hne hn g rfl e.symm)), h5⟩⟩
theorem Row.owned {w : World} {lo : Nat} {t : TypeId} {v : Value} {n : Nat} {f : Nat → Value} (h : Row w lo t v n f) (hn : 0 < n) : ∃ g m F, v.ownBlock = some g ∧ lo ≤ g ∧ w.rowIs g t m F := by
  obtain ⟨a, cap, rfl, h⟩ := h
  obtain ⟨g, m, F, rfl, h2, h3, h4, h5⟩ := h hn
  exact ⟨g, m, F, rfl, h2, h4⟩
theorem Row.congr {w : World} {lo : Nat} {t : TypeId} {v : Value} {n : Nat} {f f' : Nat → Value} (h : Row w lo t v n f) (e : ∀ i, i < n → f i = f' i) : Row w lo t v n f' := by
  obtain ⟨a, cap, rfl, h⟩ := h
  exact ⟨a, cap, rfl, fun hn => by
    obtain ⟨g, m, F, rfl, h2, h3, h4, h5⟩ := h hn
    exact ⟨g, m, F, rfl, h2, h3, h4, fun i hi => (h5 i hi).trans (e i hi)⟩⟩

theorem RowsF.below {w w' : World} {lo : Nat} {vn : Value} {N : Nat} {V : Nat → Value} {n : Nat → Nat} {f : Nat → Nat → Value} (h : RowsF w lo vn N V n f) (hb : Below w.heap.size w w') : RowsF w' lo vn N V n f :=
  ⟨h.head.below hb, fun i hi => (h.rows i hi).below hb, h.apart⟩
theorem RowsF.drewN {w : World} {lo : Nat} {vn : Value} {N : Nat} {V : Nat → Value} {n : Nat → Nat} {f : Nat → Nat → Value} (h : RowsF w lo vn N V n f) (m : Nat) : RowsF (w.drewN m) lo vn N V n f :=
  ⟨h.head.drewN m, fun i hi => (h.rows i hi).drewN m, h.apart⟩

/-- Nothing but the blocks of S has been written, and memory made. -/
structure Only (S : Nat → Prop) (w w' : World) : Prop where
  os : w'.os = w.os
  tape : w'.tape = w.tape
  output : w'.output = w.output
  size : w.heap.size ≤ w'.heap.size
  block : ∀ b, b < w.heap.size → ¬ S b → w'.heap[b]? = w.heap[b]?
theorem Only.refl (S : Nat → Prop) (w : World) : Only S w w := ⟨rfl, rfl, rfl, Nat.le_refl _, fun _ _ _ => rfl⟩
theorem Only.trans {S : Nat → Prop} {w w' w'' : World} (h : Only S w w') (g : Only S w' w'') : Only S w w'' :=
  ⟨g.os.trans h.os, g.tape.trans h.tape, g.output.trans h.output, Nat.le_trans h.size g.size, fun b hb hn => (g.block b (Nat.lt_of_lt_of_le hb h.size) hn).trans (h.block b hb hn)⟩
theorem Only.mono {S T : Nat → Prop} {w w' : World} (h : Only S w w') (hs : ∀ b, S b → T b) : Only T w w' := ⟨h.os, h.tape, h.output, h.size, fun b hb hn => h.block b hb fun e => hn (hs b e)⟩
theorem Only.of_grown {S : Nat → Prop} {w w' : World} {row : Option Nat} (hg : w.grownBy w' row) (hs : ∀ b, row = some b → S b) : Only S w w' :=
  ⟨hg.os, hg.tape, hg.output, hg.size, fun b hb hn => hg.block b hb fun e => hn (hs b e.symm)⟩
theorem Only.below {S : Nat → Prop} {w w' : World} {lo : Nat} (h : Only S w w') (hs : ∀ b, S b → lo ≤ b) (hlo : lo ≤ w.heap.size) : Below lo w w' :=
  ⟨h.os, h.tape, h.output, h.size, fun b hb => h.block b (by omega) fun e => by have := hs b e; omega⟩
theorem Row.only {S : Nat → Prop} {w w' : World} {lo : Nat} {t : TypeId} {v : Value} {n : Nat} {f : Nat → Value} (h : Row w lo t v n f) (ho : Only S w w') (hn : 0 < n → ∀ k, v.ownBlock = some k → ¬ S k) : Row w' lo t v n f := by
  obtain ⟨a, cap, rfl, h⟩ := h
  exact ⟨a, cap, rfl, fun h0 => by
    obtain ⟨g, m, F, rfl, h2, h3, h4, h5⟩ := h h0
    exact ⟨g, m, F, rfl, h2, h3, h4.of_block (ho.block g h4.lt (hn h0 g rfl)), h5⟩⟩
/-- The blocks of the rows. -/
def InRows (N : Nat) (V : Nat → Value) (n : Nat → Nat) (b : Nat) : Prop := ∃ i, i < N ∧ 0 < n i ∧ (V i).ownBlock = some b

/-- One row has been marked. -/
theorem RowsF.mark {w w' : World} {lo : Nat} {vn : Value} {N : Nat} {V : Nat → Value} {n : Nat → Nat} {f : Nat → Nat → Value} {j : Nat} {g : Nat → Value} (h : RowsF w lo vn N V n f) (hj : j < N) (hr : Row w' lo 2 (V j) (n j) g)
    (hg : (0 < n j ∧ w.grownBy w' (V j).ownBlock) ∨ (n j = 0 ∧ w = w')) : RowsF w' lo vn N V n (fun i => if i = j then g else f i) := by
  rcases hg with ⟨h0, hg⟩ | ⟨h0, rfl⟩
  · obtain ⟨b, m, F, hb, hlb, hrow⟩ := Row.owned (h.rows j hj) h0
    rw [hb] at hg
    refine ⟨Row.grownOff h.head hg fun hN k hk e => ?_, fun i hi => ?_, h.apart⟩
    · obtain ⟨b', m', F', hb', -, hrow'⟩ := Row.owned h.head hN
      rw [hb'] at hk
      cases hk
      cases e
      exact rowIs_apart hrow hrow' (by decide) rfl
    · by_cases e : i = j
      · subst e; simp only [if_pos rfl]; exact hr
      · simp only [if_neg e]
        exact Row.grownOff (h.rows i hi) hg fun hn k hk e' => h.apart i j hi hj e hn h0 k hk (by rw [hb]; exact e')
  · refine ⟨h.head, fun i hi => ?_, h.apart⟩
    by_cases e : i = j
    · subst e; simp only [if_pos rfl]; exact hr
    · simp only [if_neg e]; exact h.rows i hi

end Go.Proofs.Ytjoiaenkmmmmpaa.MarkRows
