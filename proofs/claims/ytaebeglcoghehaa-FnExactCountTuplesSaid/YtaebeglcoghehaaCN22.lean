
/- Rows of rows of numbers that a law marks and looks at.
   Conditions: stated at each theorem. -/
import Derived.Test.YtaebeglcoghehaaCN21
import Derived.Test.YtaebeglcoghehaaCN4
import Derived.Test.YtaebeglcoghehaaCN6
import Derived.Test.YtaebeglcoghehaaCN2
namespace Go.Proofs.Ytaebeglcoghehaa.MarkRows
set_option linter.unusedVariables false
set_option linter.unusedSimpArgs false
open Go.RowKit Mem Copy Rel MarkRow MarkBool

def sumTo (n : Nat → Nat) : Nat → Nat
  | 0 => 0
  | j + 1 => sumTo n j + n j
theorem sumTo_mono (n : Nat → Nat) {i j : Nat} (h : i ≤ j) : sumTo n i ≤ sumTo n j := by
  obtain ⟨q, rfl⟩ : ∃ q, j = i + q := ⟨j - i, by omega⟩
  clear h
  induction q with
  | zero => exact Nat.le_refl _
  | succ q ih => exact Nat.le_trans ih (by show sumTo n (i + q) ≤ sumTo n (i + q) + n (i + q); omega)

/-- vn is a row of N rows V i, each of n i numbers, pairwise apart; entry c of row i holds f i c. -/
structure RowsF (w : World) (lo : Nat) (vn : Value) (N : Nat) (V : Nat → Value) (n : Nat → Nat) (f : Nat → Nat → Value) : Prop where
  head : Row w lo 44 vn N V
  rows : ∀ i, i < N → Row w lo 2 (V i) (n i) (f i)
  apart : ∀ i j, i < N → j < N → i ≠ j → 0 < n i → 0 < n j → ∀ k, (V i).ownBlock = some k → (V j).ownBlock ≠ some k

theorem rowIs_apart {w : World} {g h t t' m m' : Nat} {F G : Nat → Value} (h1 : w.rowIs g t m F) (h2 : w.rowIs h t' m' G) (ht : t ≠ t') : g ≠ h := by
  obtain ⟨c1, e1, -⟩ := h1
  obtain ⟨c2, e2, -⟩ := h2
  intro e
  subst e
  rw [e1] at e2
  injection e2 with e2
  injection e2 with e3 e4
  exact ht e4
theorem Row.grownOff {w w' : World} {lo : Nat} {t : TypeId} {v : Value} {n : Nat} {f : Nat → Value} {row : Option Nat} (h : Row w lo t v n f) (hg : w.grownBy w' row) (hne : 0 < n → ∀ k, v.ownBlock = some k → row ≠ some k) : Row w' lo t v n f := by
  obtain ⟨a, cap, rfl, h⟩ := h
  exact ⟨a, cap, rfl, fun hn => by
    obtain ⟨g, m, F, rfl, h2, h3, h4, h5⟩ := h hn
    exact ⟨g, m, F, rfl, h2, h3, h4.of_block (hg.block g h4.lt (fun e => hne hn g rfl e.symm)), h5⟩⟩
theorem Row.owned {w : World} {lo : Nat} {t : TypeId} {v : Value} {n : Nat} {f : Nat → Value} (h : Row w lo t v n f) (hn : 0 < n) : ∃ g m F, v.ownBlock = some g ∧ lo ≤ g ∧ w.rowIs g t m F := by
  obtain ⟨a, cap, rfl, h⟩ := h
  obtain ⟨g, m, F, rfl, h2, h3, h4, h5⟩ := h hn
  exact ⟨g, m, F, rfl, h2, h4⟩
theorem Row.congr {w : World} {lo : Nat} {t : TypeId} {v : Value} {n : Nat} {f f' : Nat → Value} (h : Row w lo t v n f) (e : ∀ i, i < n → f i = f' i) : Row w lo t v n f' := by
  obtain ⟨a, cap, rfl, h⟩ := h
  exact ⟨a, cap, rfl, fun hn => by
    obtain ⟨g, m, F, rfl, h2, h3, h4, h5⟩ := h hn
    exact ⟨g, m, F, rfl, h2, h3, h4, fun i hi => (h5 i hi).trans (e i hi)⟩⟩

theorem RowsF.below {w w' : World} {lo : Nat} {vn : Value} {N : Nat} {V : Nat → Value} {n : Nat → Nat} {f : Nat → Nat → Value} (h : RowsF w lo vn N V n f) (hb : Below w.heap.size w w') : RowsF w' lo vn N V n f :=
  ⟨h.head.below hb, fun i hi => (h.rows i hi).below hb, h.apart⟩
theorem RowsF.drewN {w : World} {lo : Nat} {vn : Value} {N : Nat} {V : Nat → Value} {n : Nat → Nat} {f : Nat → Nat → Value} (h : RowsF w lo vn N V n f) (m : Nat) : RowsF (w.drewN m) lo vn N V n f :=
  ⟨h.head.drewN m, fun i hi => (h.rows i hi).drewN m, h.apart⟩

/-- Nothing but the blocks of S has been written, and memory made. -/
structure Only (S : Nat → Prop) (w w' : World) : Prop where
  os : w'.os = w.os
  tape : w'.tape = w.tape
  output : w'.output = w.output
  size : w.heap.size ≤ w'.heap.size
  block : ∀ b, b < w.heap.size → ¬ S b → w'.heap[b]? = w.heap[b]?
theorem Only.refl (S : Nat → Prop) (w : World) : Only S w w := ⟨rfl, rfl, rfl, Nat.le_refl _, fun _ _ _ => rfl⟩
theorem Only.trans {S : Nat → Prop} {w w' w'' : World} (h : Only S w w') (g : Only S w' w'') : Only S w w'' :=
  ⟨g.os.trans h.os, g.tape.trans h.tape, g.output.trans h.output, Nat.le_trans h.size g.size, fun b hb hn => (g.block b (Nat.lt_of_lt_of_le hb h.size) hn).trans (h.block b hb hn)⟩
theorem Only.mono {S T : Nat → Prop} {w w' : World} (h : Only S w w') (hs : ∀ b, S b → T b) : Only T w w' := ⟨h.os, h.tape, h.output, h.size, fun b hb hn => h.block b hb fun e => hn (hs b e)⟩
theorem Only.of_grown {S : Nat → Prop} {w w' : World} {row : Option Nat} (hg : w.grownBy w' row) (hs : ∀ b, row = some b → S b) : Only S w w' :=
  ⟨hg.os, hg.tape, hg.output, hg.size, fun b hb hn => hg.block b hb fun e => hn (hs b e.symm)⟩
theorem Only.below {S : Nat → Prop} {w w' : World} {lo : Nat} (h : Only S w w') (hs : ∀ b, S b → lo ≤ b) (hlo : lo ≤ w.heap.size) : Below lo w w' :=
  ⟨h.os, h.tape, h.output, h.size, fun b hb => h.block b (by omega) fun e => by have := hs b e; omega⟩
theorem Row.only {S : Nat → Prop} {w w' : World} {lo : Nat} {t : TypeId} {v : Value} {n : Nat} {f : Nat → Value} (h : Row w lo t v n f) (ho : Only S w w') (hn : 0 < n → ∀ k, v.ownBlock = some k → ¬ S k) : Row w' lo t v n f := by
  obtain ⟨a, cap, rfl, h⟩ := h
  exact ⟨a, cap, rfl, fun h0 => by
    obtain ⟨g, m, F, rfl, h2, h3, h4, h5⟩ := h h0
    exact ⟨g, m, F, rfl, h2, h3, h4.of_block (ho.block g h4.lt (hn h0 g rfl)), h5⟩⟩
/-- The blocks of the rows. -/
def InRows (N : Nat) (V : Nat → Value) (n : Nat → Nat) (b : Nat) : Prop := ∃ i, i < N ∧ 0 < n i ∧ (V i).ownBlock = some b

theorem mark0 (a : Option Addr) (cap : Nat) (k : Nat) (w : World) : Calls Try.prog 30 #[.slice a 0 cap, .int .i64 k] w fun e w' => e = .returned (.int .i64 k) ∧ w = w' := by
  go_enter Try.func30, Try.ntmps30
  go_wp2
  refine wp_loop_rounds 1 ?_
  rw [rounds_succ]
  go_wp2
  go_ret
  exact ⟨rfl, rfl⟩
theorem markI' (v : Value) (n : Nat) (f : Nat → Value) (k : Nat) (lo : Nat) (w : World) (hr : Row w lo 2 v n f) (hn : n ≤ 1048576) (hk : k ≤ 1048576) :
    Calls Try.prog 30 #[v, .int .i64 k] w fun e w' => e = .returned (.int .i64 ((k + n : Nat) : Int)) ∧ Row w' lo 2 v n (fun i => .int .i64 ((k + i : Nat) : Int)) ∧ ((0 < n ∧ w.grownBy w' v.ownBlock) ∨ (n = 0 ∧ w = w')) := by
  by_cases h0 : 0 < n
  · exact (markInts v n f k lo w hr hn hk).mono fun e w' ⟨h1, h2, h3⟩ => ⟨h1, h2, .inl ⟨h0, h3⟩⟩
  · obtain rfl : n = 0 := by omega
    obtain ⟨a, cap, rfl, -⟩ := hr
    exact (mark0 a cap k w).mono fun e w' ⟨h1, h2⟩ => ⟨by rw [h1]; rfl, ⟨a, cap, rfl, fun h => absurd h (Nat.lt_irrefl 0)⟩, .inr ⟨rfl, h2⟩⟩

/-- One row has been marked. -/
theorem RowsF.mark {w w' : World} {lo : Nat} {vn : Value} {N : Nat} {V : Nat → Value} {n : Nat → Nat} {f : Nat → Nat → Value} {j : Nat} {g : Nat → Value} (h : RowsF w lo vn N V n f) (hj : j < N) (hr : Row w' lo 2 (V j) (n j) g)
    (hg : (0 < n j ∧ w.grownBy w' (V j).ownBlock) ∨ (n j = 0 ∧ w = w')) : RowsF w' lo vn N V n (fun i => if i = j then g else f i) := by
  rcases hg with ⟨h0, hg⟩ | ⟨h0, rfl⟩
  · obtain ⟨b, m, F, hb, hlb, hrow⟩ := Row.owned (h.rows j hj) h0
    rw [hb] at hg
    refine ⟨Row.grownOff h.head hg fun hN k hk e => ?_, fun i hi => ?_, h.apart⟩
    · obtain ⟨b', m', F', hb', -, hrow'⟩ := Row.owned h.head hN
      rw [hb'] at hk
      cases hk
      cases e
      exact rowIs_apart hrow hrow' (by decide) rfl
    · by_cases e : i = j
      · subst e; simp only [if_pos rfl]; exact hr
      · simp only [if_neg e]
        exact Row.grownOff (h.rows i hi) hg fun hn k hk e' => h.apart i j hi hj e hn h0 k hk (by rw [hb]; exact e')
  · refine ⟨h.head, fun i hi => ?_, h.apart⟩
    by_cases e : i = j
    · subst e; simp only [if_pos rfl]; exact hr
    · simp only [if_neg e]; exact h.rows i hi

set_option maxHeartbeats 2000000 in
theorem markRows (vn : Value) (N : Nat) (V : Nat → Value) (n : Nat → Nat) (f : Nat → Nat → Value) (k : Nat) (lo : Nat) (w : World) (h : RowsF w lo vn N V n f) (hlo : lo ≤ w.heap.size) (hN : N ≤ 1048576) (hk : 0 < N → k + sumTo n N ≤ 1048576) (hk0 : k ≤ 2097153) :
    Calls Try.prog 72 #[vn, .int .i64 k] w fun e w' => e = .returned (.int .i64 ((k + sumTo n N : Nat) : Int)) ∧ RowsF w' lo vn N V n (fun i c => .int .i64 ((k + sumTo n i + c : Nat) : Int)) ∧ Only (InRows N V n) w w' := by
  obtain ⟨a, cap, hvn, hhead⟩ := h.head
  have HF := Lib.hid h
  subst hvn
  clear h hhead
  go_enter Try.func72, Try.ntmps72
  go_wp2
  go_loopw [1, 5] (fun kk i wr => ∃ j : Nat, j ≤ N ∧ i = .int .i64 j ∧ kk = .int .i64 ((k + sumTo n j : Nat) : Int) ∧ RowsF wr lo (.slice a N cap) N V n (fun i c => if i < j then .int .i64 ((k + sumTo n i + c : Nat) : Int) else f i c) ∧ Only (InRows N V n) w wr) (fun _ i _ => N - (intOf i).toNat)
  case atStart => exact ⟨0, Nat.zero_le _, rfl, rfl, ⟨HF.out.head, fun i hi => Row.congr (HF.out.rows i hi) (fun c hc => by rw [if_neg (Nat.not_lt_zero i)]), HF.out.apart⟩, Only.refl _ _⟩
  case round =>
    obtain ⟨j, hj, rfl, rfl, hrows, hbel⟩ := hrel
    have HR := Lib.hid hrows
    have HB := Lib.hid hbel
    have hsz : lo ≤ wr.heap.size := Nat.le_trans hlo hbel.size
    have HSZ := Lib.hid hsz
    by_cases hlt : j < N
    · obtain ⟨a', cap', e, hh⟩ := hrows.head
      obtain ⟨g, m, G, hg, hlg, hNm, hrow, hG⟩ := hh (by omega)
      have e' : a = a' := by injection e
      subst e'
      subst hg
      have cA := hrow.cell (show j < m by omega)
      rw [hG j hlt] at cA
      have hgl := hrow.lt
      have hkj : k + sumTo n j + n j ≤ 1048576 := by have := sumTo_mono n (show j + 1 ≤ N from hlt); simp only [sumTo] at this; have := hk (by omega); omega
      have HM := Lib.hid (markI' (V j) (n j) _ (k + sumTo n j) lo wr (HR.out.rows j hlt) (by omega) (by omega))
      obtain ⟨s, hs⟩ : ∃ s, s = k + sumTo n j := ⟨_, rfl⟩
      have HS := Lib.hid hs
      rw [← hs] at HM hkj
      rw [← hs]
      obtain ⟨v, hv⟩ : ∃ v, v = V j := ⟨_, rfl⟩
      have HV := Lib.hid hv
      rw [← hv] at cA HM
      obtain ⟨q, hq⟩ : ∃ q, q = n j := ⟨_, rfl⟩
      have HQ := Lib.hid hq
      rw [← hq] at HM hkj
      clear hs hv hq hrows hbel hrow hG hh e hsz
      go_wp2_with fail
      refine HM.out.mono ?_
      rintro e w1 ⟨rfl, hr1, hg1⟩
      have H1 := Lib.hid hr1
      have H2 := Lib.hid hg1
      clear hr1 hg1 HM
      go_wp2_with fail
      go_roundw
      case rel =>
        have hmk := RowsF.mark HR.out hlt (by rw [← HV.out, ← HQ.out]; exact H1.out) (by rw [← HV.out, ← HQ.out]; exact H2.out)
        refine ⟨j + 1, hlt, by go_num, ?_, ⟨hmk.head, fun i hi => Row.congr (hmk.rows i hi) fun c hc => ?_, hmk.apart⟩, ?_⟩
        · rw [HS.out, HQ.out]; simp only [sumTo]; exact congrArg (Value.int .i64) (by omega)
        · by_cases e : i = j
          · subst e; rw [if_pos (Nat.lt_succ_self i), if_pos rfl, HS.out]
          · have h1 : (i < j + 1) = (i < j) := by apply propext; constructor <;> intro h <;> omega
            simp only [if_neg e, h1]
        · rcases H2.out with ⟨h0, hg⟩ | ⟨h0, rfl⟩
          · exact HB.out.trans (Only.of_grown hg fun b hb => ⟨j, hlt, by rw [← HQ.out]; exact h0, by rw [← HV.out]; exact hb⟩)
          · exact HB.out
      case measure => simp [intOf]; omega
    · obtain rfl : j = N := by omega
      clear hrows hbel
      go_wp2_with fail
      go_ret
      exact ⟨rfl, ⟨HR.out.head, fun i hi => Row.congr (HR.out.rows i hi) (fun c hc => by rw [if_pos hi]), HR.out.apart⟩, HB.out⟩
set_option maxHeartbeats 2000000 in
theorem heldRows (vn : Value) (N : Nat) (V : Nat → Value) (n : Nat → Nat) (k : Nat) (lo : Nat) (w : World) (h : RowsF w lo vn N V n (fun i c => .int .i64 ((k + sumTo n i + c : Nat) : Int))) (hN : N ≤ 1048576) (hk : 0 < N → k + sumTo n N ≤ 1048576) (hk0 : k ≤ 2097152) :
    Calls Try.prog 74 #[vn, .int .i64 k] w fun e w' => e = .returned (.int .i64 ((k + sumTo n N : Nat) : Int)) ∧ w = w' := by
  have HF := Lib.hid h
  obtain ⟨a, cap, rfl, hh⟩ := h.head
  clear h
  go_enter Try.func74, Try.ntmps74
  go_wp2
  go_loop [1, 5] (fun kk i => ∃ j : Nat, j ≤ N ∧ i = .int .i64 j ∧ kk = .int .i64 ((k + sumTo n j : Nat) : Int)) (fun _ i => N - (intOf i).toNat)
  case atStart => exact ⟨0, Nat.zero_le _, rfl, rfl⟩
  case round =>
    obtain ⟨j, hj, rfl, rfl⟩ := hrel
    by_cases hlt : j < N
    · obtain ⟨g, m, G, rfl, hlg, hNm, hrow, hG⟩ := hh (by omega)
      have cA := hrow.cell (show j < m by omega)
      rw [hG j hlt] at cA
      have hgl := hrow.lt
      have hkj : k + sumTo n j + n j ≤ 1048576 := by have := sumTo_mono n (show j + 1 ≤ N from hlt); simp only [sumTo] at this; have := hk (by omega); omega
      have hrd := (HF.out.rows j hlt).reads (by unfold maxLen; omega)
      have HM := Lib.hid (heldInts (V j) (n j) (k + sumTo n j) w.heap.size w hrd (by omega) (by omega))
      obtain ⟨s, hs⟩ : ∃ s, s = k + sumTo n j := ⟨_, rfl⟩
      have HS := Lib.hid hs
      rw [← hs] at HM hkj
      rw [← hs]
      obtain ⟨v, hv⟩ : ∃ v, v = V j := ⟨_, rfl⟩
      rw [← hv] at cA HM
      obtain ⟨q, hq⟩ : ∃ q, q = n j := ⟨_, rfl⟩
      have HQ := Lib.hid hq
      rw [← hq] at HM hkj
      clear hs hv hq hrow hG hh hrd
      go_wp2_with fail
      refine HM.out.mono ?_
      rintro e w1 ⟨rfl, rfl⟩
      go_wp2_with fail
      go_round
      case rel => exact ⟨j + 1, hlt, by go_num, by rw [HS.out, HQ.out]; simp only [sumTo]; exact congrArg (Value.int .i64) (by omega)⟩
      case measure => simp [intOf]; omega
    · obtain rfl : j = N := by omega
      clear hh
      go_wp2_with fail
      go_ret
      exact ⟨rfl, rfl⟩
end Go.Proofs.Ytaebeglcoghehaa.MarkRows
/- Relations that a law marks and looks at.
   Conditions: stated at each theorem. -/
namespace Go.Proofs.Ytaebeglcoghehaa.MarkRel
set_option linter.unusedVariables false
set_option linter.unusedSimpArgs false
open Go.RowKit Mem Copy Rel MarkRow MarkBool MarkRows Heap

/-- A relation's lists in memory of their own. -/
structure RelF (w : World) (lo : Nat) (va vn : Value) (nb : Nat) (fb : Nat → Value) (N : Nat) (V : Nat → Value) (n : Nat → Nat) (f : Nat → Nat → Value) : Prop where
  acc : Row w lo 4 va nb fb
  nxt : RowsF w lo vn N V n f
theorem RelF.below {w w' : World} {lo : Nat} {va vn : Value} {nb : Nat} {fb : Nat → Value} {N : Nat} {V : Nat → Value} {n : Nat → Nat} {f : Nat → Nat → Value} (h : RelF w lo va vn nb fb N V n f) (hb : Below w.heap.size w w') : RelF w' lo va vn nb fb N V n f := ⟨h.acc.below hb, h.nxt.below hb⟩
theorem RelF.drewN {w : World} {lo : Nat} {va vn : Value} {nb : Nat} {fb : Nat → Value} {N : Nat} {V : Nat → Value} {n : Nat → Nat} {f : Nat → Nat → Value} (h : RelF w lo va vn nb fb N V n f) (m : Nat) : RelF (w.drewN m) lo va vn nb fb N V n f := ⟨h.acc.drewN m, h.nxt.drewN m⟩

/-- Their blocks. -/
def InRel (va : Value) (nb N : Nat) (V : Nat → Value) (n : Nat → Nat) (b : Nat) : Prop := (0 < nb ∧ va.ownBlock = some b) ∨ InRows N V n b

theorem RowsF.other {w w' : World} {lo : Nat} {vn : Value} {N : Nat} {V : Nat → Value} {n : Nat → Nat} {f : Nat → Nat → Value} {g m t : Nat} {F : Nat → Value} (h : RowsF w lo vn N V n f) (hg : w.grownBy w' (some g)) (hrow : w.rowIs g t m F) (h1 : t ≠ 2) (h2 : t ≠ 44) : RowsF w' lo vn N V n f := by
  refine ⟨Row.grownOff h.head hg fun hN k hk e => ?_, fun i hi => Row.grownOff (h.rows i hi) hg fun hn k hk e => ?_, h.apart⟩
  · obtain ⟨b', m', F', hb', -, hrow'⟩ := Row.owned h.head hN
    rw [hb'] at hk; cases hk; cases e
    exact rowIs_apart hrow hrow' h2 rfl
  · obtain ⟨b', m', F', hb', -, hrow'⟩ := Row.owned (h.rows i hi) hn
    rw [hb'] at hk; cases hk; cases e
    exact rowIs_apart hrow hrow' h1 rfl
theorem not_in {w : World} {lo lo' : Nat} {vn va : Value} {N nb : Nat} {V : Nat → Value} {n : Nat → Nat} {f : Nat → Nat → Value} {t : TypeId} {fb : Nat → Value} (h : RowsF w lo vn N V n f) (ha : Row w lo' t va nb fb) (ht : t ≠ 2) (hn : 0 < nb) (k : Nat) (hk : va.ownBlock = some k) : ¬ InRows N V n k := by
  rintro ⟨i, hi, h0, he⟩
  obtain ⟨b1, m1, F1, e1, -, r1⟩ := Row.owned ha hn
  obtain ⟨b2, m2, F2, e2, -, r2⟩ := Row.owned (h.rows i hi) h0
  rw [hk] at e1; cases e1
  rw [he] at e2; cases e2
  exact rowIs_apart r1 r2 ht rfl

theorem Only.alloc {S : Nat → Prop} (w : World) (o : Obj) : Only S w (w.alloc o) := ⟨rfl, rfl, rfl, by simp, fun b hb _ => Below.heap_alloc _ _ _ hb⟩
theorem not_size {w : World} {lo : Nat} {va vn : Value} {nb : Nat} {fb : Nat → Value} {N : Nat} {V : Nat → Value} {n : Nat → Nat} {f : Nat → Nat → Value} (h : RelF w lo va vn nb fb N V n f) : ¬ InRel va nb N V n w.heap.size := by
  rintro (⟨h0, he⟩ | ⟨i, hi, h0, he⟩)
  · obtain ⟨b, m, F, e, -, r⟩ := Row.owned h.acc h0
    rw [he] at e; cases e
    exact Nat.lt_irrefl _ r.lt
  · obtain ⟨b, m, F, e, -, r⟩ := Row.owned (h.nxt.rows i hi) h0
    rw [he] at e; cases e
    exact Nat.lt_irrefl _ r.lt

set_option maxHeartbeats 2000000 in
theorem markRel (t s : Int) (va vn : Value) (nb : Nat) (fb : Nat → Value) (N : Nat) (V : Nat → Value) (n : Nat → Nat) (f : Nat → Nat → Value) (k : Nat) (lo : Nat) (w : World) (h : RelF w lo va vn nb fb N V n f) (hlo : lo ≤ w.heap.size) (hN : N ≤ 1048576) (hk0 : k ≤ 1048577) (hnb : nb ≤ 1048576) (hk : 0 < N → k + nb + sumTo n N ≤ 1048576) :
    Calls Try.prog 24 #[.agg #[.int .i64 t, .int .i64 s, va, vn], .int .i64 k] w fun e w' => e = .returned (.int .i64 ((k + nb + sumTo n N : Nat) : Int)) ∧ RelF w' lo va vn nb (fun i => .bool (markB (k + i))) N V n (fun i c => .int .i64 ((k + nb + sumTo n i + c : Nat) : Int)) ∧ Only (InRel va nb N V n) w w' := by
  have HSZ := Lib.hid (not_size h)
  obtain ⟨W, hW⟩ : ∃ W, W = w.alloc (.cells #[.int .i64 t, .int .i64 s, va, vn] 29) := ⟨_, rfl⟩
  have HW := Lib.hid (show Only (InRel va nb N V n) w W by rw [hW]; exact Only.alloc _ _)
  have HF := Lib.hid (show RelF W lo va vn nb fb N V n f by rw [hW]; exact h.below ((Below.refl _ _).alloc (Nat.le_refl _) _))
  have HBX := Lib.hid (show W.heap[w.heap.size]? = some (.cells #[.int .i64 t, .int .i64 s, va, vn] 29 (0, 0)) by rw [hW]; exact heap_alloc_new _ _)
  have HM := Lib.hid (markBools va nb fb k lo W HF.out.acc (by omega) (by omega))
  obtain ⟨aa, ca, rfl, -⟩ := h.acc
  obtain ⟨ab, cb, rfl, -⟩ := h.nxt.head
  clear h
  go_enter Try.func24, Try.ntmps24
  go_wp2_with fail
  rw [← hW]
  clear hW
  refine HM.out.mono ?_
  rintro e w1 ⟨rfl, hr, hg⟩
  have H1 := Lib.hid (show RowsF w1 lo (.slice ab N cb) N V n f ∧ Only (InRel (.slice aa nb ca) nb N V n) W w1 from by
    rcases hg with ⟨h0, hg⟩ | rfl
    · obtain ⟨b, m, F, hb, -, hrow⟩ := Row.owned HF.out.acc h0
      rw [hb] at hg
      exact ⟨RowsF.other HF.out.nxt hg hrow (by decide) (by decide), Only.of_grown hg fun b' e => by cases e; exact .inl ⟨h0, hb⟩⟩
    · exact ⟨HF.out.nxt, Only.refl _ _⟩)
  have hbx : w1.heap[w.heap.size]? = some (.cells #[.int .i64 t, .int .i64 s, .slice aa nb ca, .slice ab N cb] 29 (0, 0)) := (H1.out.2.block _ (lt_of_block HBX.out) HSZ.out).trans HBX.out
  have q3 : w1.cell? ⟨w.heap.size, 3, none⟩ = some (.slice ab N cb) := by simp [World.cell?, hbx]
  have hlb := lt_of_block hbx
  clear hbx
  have H2 := Lib.hid hr
  have HS := Lib.hid (show lo ≤ w1.heap.size from Nat.le_trans hlo (Nat.le_trans HW.out.size H1.out.2.size))
  clear hr hg HM
  have HR := Lib.hid (markRows (.slice ab N cb) N V n f (k + nb) lo w1 H1.out.1 HS.out hN (fun h => by have := hk h; omega) (by omega))
  go_wp2_with fail
  refine HR.out.mono ?_
  rintro e w2 ⟨rfl, hr, ho⟩
  have H3 := Lib.hid hr
  have H4 := Lib.hid ho
  clear hr ho HR
  go_wp2_with fail
  go_ret
  exact ⟨rfl, ⟨Row.only H2.out H4.out fun h0 k' hk' => not_in H1.out.1 H2.out (by decide) h0 k' hk', H3.out⟩, HW.out.trans (H1.out.2.trans (H4.out.mono fun b hb => .inr hb))⟩

set_option maxHeartbeats 2000000 in
theorem heldRel (t s : Int) (va vn : Value) (nb : Nat) (N : Nat) (V : Nat → Value) (n : Nat → Nat) (k : Nat) (lo : Nat) (w : World) (h : RelF w lo va vn nb (fun i => .bool (markB (k + i))) N V n (fun i c => .int .i64 ((k + nb + sumTo n i + c : Nat) : Int))) (hN : N ≤ 1048576) (hk0 : k ≤ 1048576) (hnb : nb ≤ 1048576) (hk : 0 < N → k + nb + sumTo n N ≤ 1048576) :
    Calls Try.prog 25 #[.agg #[.int .i64 t, .int .i64 s, va, vn], .int .i64 k] w fun e w' => e = .returned (.int .i64 ((k + nb + sumTo n N : Nat) : Int)) ∧ Below w.heap.size w w' := by
  have HH := Lib.hid (show RelF (w.alloc (.cells #[.int .i64 t, .int .i64 s, va, vn] 29)) lo va vn nb (fun i => .bool (markB (k + i))) N V n (fun i c => .int .i64 ((k + nb + sumTo n i + c : Nat) : Int)) from h.below ((Below.refl _ _).alloc (Nat.le_refl _) _))
  have HM := Lib.hid (heldBools va nb k _ _ (HH.out.acc.reads (by unfold maxLen; omega)) (by omega) (by omega))
  have HR := Lib.hid (heldRows vn N V n (k + nb) lo _ HH.out.nxt hN (fun h => by have := hk h; omega) (by omega))
  obtain ⟨aa, ca, rfl, -⟩ := h.acc
  obtain ⟨ab, cb, rfl, -⟩ := h.nxt.head
  clear h
  go_enter Try.func25, Try.ntmps25
  go_wp2_with fail
  refine HM.out.mono ?_
  rintro e w1 ⟨rfl, rfl⟩
  go_wp2_with fail
  refine HR.out.mono ?_
  rintro e w1 ⟨rfl, rfl⟩
  go_wp2_with fail
  go_ret
  exact ⟨rfl, (Below.refl _ _).alloc (Nat.le_refl _) _⟩
end Go.Proofs.Ytaebeglcoghehaa.MarkRel
/- What is built is a relation that laws can mark.
   Conditions: none. -/
namespace Go.Proofs.Ytaebeglcoghehaa.MarkOf
set_option linter.unusedVariables false
set_option linter.unusedSimpArgs false
open Go.RowKit Mem Copy Rel MarkRow MarkBool MarkRows MarkRel Heap Bld

def lenF (nx : List (List Int)) (i : Nat) : Nat := (nx.getD i []).length
def intF (nx : List (List Int)) (i c : Nat) : Value := .int .i64 ((nx.getD i []).getD c 0)
def boolF (acc : List Bool) (i : Nat) : Value := .bool (acc.getD i false)

theorem built_relF {w : World} {B : Nat} {va vn : Value} {acc : List Bool} {nx : List (List Int)} (h : Built w B va vn acc nx) :
    ∃ V, RelF w B va vn acc.length (boolF acc) nx.length V (lenF nx) (intF nx) := by
  obtain ⟨items, h1, h2, h3⟩ := h.rows
  have hlen : items.length = nx.length := by have := congrArg List.length h3; simpa using this
  have hrow : ∀ i (hi : i < items.length), items[i].2 = (nx.getD i []).map (Value.int .i64) := by
    intro i hi
    have := congrArg (fun x => x[i]?) h3
    have hi' : i < nx.length := by omega
    simp [hi, hi'] at this
    rw [this]; simp [List.getD, hi']
  refine ⟨fun i => ((items.map Prod.fst).getD i (.int .i64 0)), ?_, ?_, fun i hi => ?_, fun i j hi hj hne h0 h0' k hk => ?_⟩
  · have h4 := h.acc
    have e : (acc.map Value.bool).length = acc.length := by simp
    have := Row.of_owns h4 (boolF acc) (fun i hi => by rw [List.length_map] at hi; simp [boolF, List.getD, hi])
    rwa [e] at this
  · have e : (items.map Prod.fst).length = nx.length := by rw [List.length_map, hlen]
    have := Row.of_owns h2 (fun i => ((items.map Prod.fst).getD i (.int .i64 0))) (fun i hi => by simp only [List.getD, List.getElem?_eq_getElem hi, Option.getD_some])
    rwa [e] at this
  · have hi' : i < items.length := by omega
    have hl := h1.lst items[i] (List.getElem_mem hi')
    have e1 : (items.map Prod.fst).getD i (.int .i64 0) = items[i].1 := by simp [List.getD, hi']
    have e2 := hrow i hi'
    show Row w B 2 ((items.map Prod.fst).getD i (.int .i64 0)) (lenF nx i) (intF nx i)
    rw [e1]
    have e3 : items[i].2.length = lenF nx i := by rw [e2, List.length_map]; rfl
    have := Row.of_owns hl (intF nx i) (fun c hc => by
      have hc' : c < (nx.getD i []).length := by rw [e3] at hc; exact hc
      simp only [e2, List.getElem_map]
      unfold intF
      rw [List.getD, List.getElem?_eq_getElem hc', Option.getD_some])
    rwa [e3] at this
  · have hi' : i < items.length := by omega
    have hj' : j < items.length := by omega
    have e1 : (items.map Prod.fst).getD i (.int .i64 0) = items[i].1 := by simp [List.getD, hi']
    have e2 : (items.map Prod.fst).getD j (.int .i64 0) = items[j].1 := by simp [List.getD, hj']
    show ((items.map Prod.fst).getD j (.int .i64 0)).ownBlock ≠ some k
    have hk' : items[i].1.ownBlock = some k := by rw [← e1]; exact hk
    rw [e2]
    rcases Nat.lt_or_gt_of_ne hne with h | h
    · exact List.pairwise_iff_getElem.1 h1.apart i j hi' hj' h k hk'
    · intro e
      exact List.pairwise_iff_getElem.1 h1.apart j i hj' hi' h k e hk'

/-- So is a law's copy of its argument, and its blocks lie between two numbers. -/
theorem own_relF {W : World} {M : Nat} {r : R} (h : Rel.Own W M r) :
    ∃ V, RelF W M (.slice (some ⟨M, 0, none⟩) r.accept.length r.accept.length) (.slice (some ⟨M + 1, 0, none⟩) r.next.length r.next.length) r.accept.length (boolF r.accept) r.next.length V (lenF r.next) (intF r.next) ∧
      ∀ b, InRel (.slice (some ⟨M, 0, none⟩) r.accept.length r.accept.length) r.accept.length r.next.length V (lenF r.next) b → M ≤ b ∧ b < M + 2 + r.next.length := by
  refine ⟨fun i => .slice (some ⟨M + 1 + 1 + i, 0, none⟩) (r.next.getD i []).length (r.next.getD i []).length, ⟨Row.of_row h.fresh.accept, ⟨Row.mono (Row.of_row h.fresh.next.1) (Nat.le_succ _), fun i hi => Row.mono (Row.of_row (h.fresh.next.2 i hi)) (by omega), fun i j hi hj hne _ _ k hk e => ?_⟩⟩, fun b hb => ?_⟩
  · cases hk
    have e2 : M + 1 + 1 + j = M + 1 + 1 + i := by
      have : (some (M + 1 + 1 + j) : Option Nat) = some (M + 1 + 1 + i) := e
      injection this
    omega
  · rcases hb with ⟨-, he⟩ | ⟨i, hi, -, he⟩
    · cases he; show M ≤ M ∧ M < M + 2 + r.next.length; omega
    · cases he; show M ≤ M + 1 + 1 + i ∧ M + 1 + 1 + i < M + 2 + r.next.length; omega
end Go.Proofs.Ytaebeglcoghehaa.MarkOf
/- The state of a law's walk over a relation that is answered: what is kept when a part of it is marked.
   Conditions: stated at each theorem. -/
namespace Go.Proofs.Ytaebeglcoghehaa.LawKit
set_option linter.unusedVariables false
set_option linter.unusedSimpArgs false
open Go.RowKit Mem Copy Rel Valid Heap Bld MarkRow MarkBool MarkRows MarkRel MarkOf ToL TidyAuto TidyRight SpecRight SpecTidyRel

theorem sumTo_le (n : Nat → Nat) (q N : Nat) (h : ∀ i, n i ≤ q) : sumTo n N ≤ N * q := by
  induction N with
  | zero => simp [sumTo]
  | succ N ih => simp only [sumTo]; have := h N; rw [Nat.succ_mul]; omega
theorem sumTo_take (xss : List (List Int)) (k : Nat) (hk : k ≤ xss.length) : sumTo (lenF xss) k = ((xss.map List.length).take k).sum := by
  induction k with
  | zero => simp [sumTo]
  | succ k ih =>
    have h1 : k < xss.length := hk
    have h2 : k < (xss.map List.length).length := by rw [List.length_map]; exact h1
    have h3 : lenF xss k = xss[k].length := by simp [lenF, List.getD, h1]
    simp only [sumTo]
    rw [ih (by omega), List.take_succ_eq_append_getElem h2, List.sum_append, List.getElem_map, h3]
    simp
theorem szRowsTo_sum (xss : List (List Int)) : ∀ left : Int, 0 ≤ szRowsTo left xss → (((xss.map List.length).sum : Nat) : Int) ≤ left := by
  induction xss with
  | nil => intro left h; simpa [szRowsTo] using h
  | cons y r ih =>
    intro left h
    unfold szRowsTo at h
    by_cases hc : left < (y.length : Int)
    · rw [if_pos hc] at h; omega
    · rw [if_neg hc] at h
      have := ih _ h
      simp only [List.map_cons, List.sum_cons]
      omega
theorem szRel_sum {r : R} (h : 0 ≤ szRel 1048576 r) : r.accept.length + r.next.length + sumTo (lenF r.next) r.next.length ≤ 1048576 := by
  rw [sumTo_take _ _ (Nat.le_refl _), List.take_of_length_le (by rw [List.length_map]; exact Nat.le_refl _)]
  unfold szRel at h
  by_cases h1 : (1048576 : Int) < (r.accept.length : Int)
  · rw [if_pos h1] at h; omega
  · rw [if_neg h1] at h
    unfold szRows at h
    by_cases h2 : (1048576 : Int) - r.accept.length < (r.next.length : Int)
    · rw [if_pos h2] at h; omega
    · rw [if_neg h2] at h
      have := szRowsTo_sum _ _ h
      omega

theorem tidyA_len (r : R) : (tidyA r).length ≤ 150 := by
  unfold tidyA
  by_cases h : few r = true
  · rw [if_pos h]
    unfold few at h
    rw [Bool.and_eq_true] at h
    exact of_decide_eq_true h.2
  · rw [if_neg h]; exact Nat.zero_le _
theorem tidyN_len (r : R) : (tidyN r).length = (tidyA r).length := by
  unfold tidyA tidyN
  by_cases h : few r = true
  · rw [if_pos h, if_pos h]; unfold tidyNext tidyAcc TidyAuto.tidNext TidyAuto.tidAcc; rw [List.length_map, List.length_map]
  · rw [if_neg h, if_neg h]; rfl
theorem nxM_len (l : L) (s : Nat) : ((nxM l).getD s []).length ≤ wide l.k := by
  by_cases hs : s < (nxM l).length
  · rw [List.getD, List.getElem?_eq_getElem hs, Option.getD_some]
    have hm := List.getElem_mem hs
    unfold nxM at hm
    rw [List.mem_append] at hm
    rcases hm with hm | hm
    · obtain ⟨p, -, hp⟩ := List.mem_map.1 hm
      unfold nxM
      rw [← hp, rowM_length]; exact Nat.le_refl _
    · have := List.mem_singleton.1 hm
      unfold nxM
      rw [this, List.length_replicate]; exact Nat.le_refl _
  · rw [List.getD, List.getElem?_eq_none (by omega)]; exact Nat.zero_le _
theorem tidyN_row (r : R) (i : Nat) : lenF (tidyN r) i ≤ 26 := by
  unfold lenF tidyN
  by_cases h : few r = true
  · rw [if_pos h]
    have hk : wide (toL r).k ≤ 26 := by
      unfold few okB at h
      rw [Bool.and_eq_true, Bool.and_eq_true] at h
      have := (relOf_toL h.1.2).2
      have := wide_cases this.k0 this.k3
      omega
    by_cases hi : i < (tidyNext (toL r)).length
    · rw [List.getD, List.getElem?_eq_getElem hi, Option.getD_some]
      have hm := List.getElem_mem hi
      obtain ⟨s, -, hs⟩ := List.mem_map.1 (show _ ∈ (tid (auM (toL r)) 0).map (tidRow (auM (toL r)) 0) from hm)
      rw [← hs]
      unfold tidRow
      rw [List.length_map]
      exact Nat.le_trans (nxM_len _ s) hk
    · rw [List.getD, List.getElem?_eq_none (by omega)]; exact Nat.zero_le _
  · rw [if_neg h]; simp [List.getD]
theorem tidy_sum (r : R) : 1 + (tidyA r).length + sumTo (lenF (tidyN r)) (tidyN r).length ≤ 5000 := by
  have h1 := sumTo_le (lenF (tidyN r)) 26 (tidyN r).length (tidyN_row r)
  have h2 := tidyN_len r
  have h3 := tidyA_len r
  omega

theorem built_only {S : Nat → Prop} {w w' : World} {B : Nat} {va vn : Value} {acc : List Bool} {nx : List (List Int)} (h : Built w B va vn acc nx) (ho : Only S w w') (hS : ∀ b, S b → b < B) : Built w' B va vn acc nx := by
  obtain ⟨items, h1, h2, h3⟩ := h.rows
  have hk : ∀ (t : TypeId) (v : Value) (xs : List Value), Lst w B t v xs → ∀ k, v.ownBlock = some k → w'.heap[k]? = w.heap[k]? := fun t v xs hl k hk => ho.block k (hl.lt hk) (fun e => by have := hS k e; have := hl.ge hk; omega)
  exact ⟨h.acc.of_block (hk _ _ _ h.acc), items, h1.of_block (fun p hp => hk _ _ _ (h1.lst p hp)), h2.of_block (hk _ _ _ h2), h3⟩
theorem row_ge {w : World} {lo : Nat} {t : TypeId} {v : Value} {n : Nat} {f : Nat → Value} (h : Row w lo t v n f) (hn : 0 < n) (k : Nat) (hk : v.ownBlock = some k) : lo ≤ k := by
  obtain ⟨g, m, F, e, hl, -⟩ := Row.owned h hn
  rw [hk] at e; cases e; exact hl
theorem inRel_ge {w : World} {lo : Nat} {va vn : Value} {nb : Nat} {fb : Nat → Value} {N : Nat} {V : Nat → Value} {n : Nat → Nat} {f : Nat → Nat → Value} (h : RelF w lo va vn nb fb N V n f) {b : Nat} (hb : InRel va nb N V n b) : lo ≤ b := by
  rcases hb with ⟨h0, he⟩ | ⟨i, hi, h0, he⟩
  · exact row_ge h.acc h0 b he
  · exact row_ge (h.nxt.rows i hi) h0 b he
theorem relF_only {S : Nat → Prop} {w w' : World} {lo : Nat} {va vn : Value} {nb : Nat} {fb : Nat → Value} {N : Nat} {V : Nat → Value} {n : Nat → Nat} {f : Nat → Nat → Value} (h : RelF w lo va vn nb fb N V n f) (ho : Only S w w') (hS : ∀ b, S b → b < lo) : RelF w' lo va vn nb fb N V n f :=
  ⟨Row.only h.acc ho fun hn k hk e => by have := row_ge h.acc hn k hk; have := hS k e; omega,
   Row.only h.nxt.head ho fun hn k hk e => by have := row_ge h.nxt.head hn k hk; have := hS k e; omega,
   fun i hi => Row.only (h.nxt.rows i hi) ho fun hn k hk e => by have := row_ge (h.nxt.rows i hi) hn k hk; have := hS k e; omega, h.nxt.apart⟩
theorem Four.only {S : Nat → Prop} {w w' : World} {b : Nat} {x0 x1 x2 x3 : Value} (h : Four w b x0 x1 x2 x3) (ho : Only S w w') (hb : b < w.heap.size) (hn : ¬ S b) : Four w' b x0 x1 x2 x3 := by
  have e : ∀ i, w'.cell? ⟨b, i, none⟩ = w.cell? ⟨b, i, none⟩ := fun i => World.cell?_of_block (w := w) (ho.block b hb hn)
  exact ⟨(e 0).trans h.c0, (e 1).trans h.c1, (e 2).trans h.c2, (e 3).trans h.c3⟩
theorem Kept.only {S : Nat → Prop} {w w' : World} {b : Nat} {x0 x1 x2 x3 : Value} (h : Kept w b x0 x1 x2 x3) (ho : Only S w w') (hn : ¬ S b) : Kept w' b x0 x1 x2 x3 :=
  ⟨Four.only h.four ho h.lt hn, Nat.lt_of_lt_of_le h.lt ho.size⟩
theorem Kept.drewN {W : World} {b : Nat} {x0 x1 x2 x3 : Value} (h : Kept W b x0 x1 x2 x3) (m : Nat) : Kept (W.drewN m) b x0 x1 x2 x3 := ⟨⟨h.four.c0, h.four.c1, h.four.c2, h.four.c3⟩, h.lt⟩

/-- A relation that is read, and behind it the box in which it lies. -/
structure WK (P : Nat) (K : Int) (va vn : Value) (A : List Bool) (N : List (List Int)) (W : World) : Prop where
  rel : RelAt W P (.agg #[.int .i64 K, .int .i64 0, va, vn]) ⟨K, 0, A, N⟩
  box : Kept W P (.int .i64 K) (.int .i64 0) va vn
theorem WK.low {P : Nat} {K : Int} {va vn : Value} {A : List Bool} {N : List (List Int)} {W W' : World} (h : WK P K va vn A N W) (hb : Below (P + 1) W W') : WK P K va vn A N W' :=
  ⟨h.rel.below hb (Nat.le_succ P), ⟨h.box.four.below hb (Nat.lt_succ_self P), Nat.lt_of_lt_of_le h.box.lt hb.size⟩⟩
theorem WK.step {P : Nat} {K : Int} {va vn : Value} {A : List Bool} {N : List (List Int)} {W W' : World} (h : WK P K va vn A N W) (hb : Below W.heap.size W W') : WK P K va vn A N W' :=
  h.low (hb.mono h.box.lt)
theorem WK.new {w : World} {B : Nat} {K : Int} {va vn : Value} {A : List Bool} {N : List (List Int)} (h : Built w B va vn A N) (t : TypeId) : WK w.heap.size K va vn A N (w.alloc (.cells #[.int .i64 K, .int .i64 0, va, vn] t)) :=
  ⟨(h.reads w.heap.size (Nat.le_refl _) K 0).below ((Below.refl _ _).alloc (Nat.le_refl _) _) (Nat.le_refl _), Kept.new _ _ _ _ _ _⟩
theorem WK.read {P : Nat} {K : Int} {va vn : Value} {A : List Bool} {N : List (List Int)} {W : World} (h : WK P K va vn A N W) : RelAt W W.heap.size (.agg #[.int .i64 K, .int .i64 0, va, vn]) ⟨K, 0, A, N⟩ :=
  h.rel.mono (Nat.le_of_lt h.box.lt)

/-- The law's state: its argument's box, the model's answer, the program's answer. -/
structure St (w : World) (t s : Int) (va vn : Value) (P : Nat) (K : Int) (wa wn : Value) (A : List Bool) (N : List (List Int)) (L : Nat) (ga gn : Value) (V : Nat → Value) (Q : Nat) (fb : Nat → Value) (f : Nat → Nat → Value) (W : World) : Prop where
  base : Below w.heap.size w W
  arg : Kept W w.heap.size (.int .i64 t) (.int .i64 s) va vn
  wk : WK P K wa wn A N W
  relf : RelF W L ga gn A.length fb N.length V (lenF N) f
  gb : Kept W Q (.int .i64 K) (.int .i64 0) ga gn
  out : ¬ InRel ga A.length N.length V (lenF N) Q
  hPL : P < L
  hwL : w.heap.size < L
  hLQ : L ≤ Q

section
variable {w : World} {t s : Int} {va vn : Value} {P : Nat} {K : Int} {wa wn : Value} {A : List Bool} {N : List (List Int)} {L : Nat} {ga gn : Value} {V : Nat → Value} {Q : Nat} {fb : Nat → Value} {f : Nat → Nat → Value} {W W' : World}
theorem St.step (h : St w t s va vn P K wa wn A N L ga gn V Q fb f W) (hb : Below W.heap.size W W') : St w t s va vn P K wa wn A N L ga gn V Q fb f W' :=
  ⟨base_step h.base hb, h.arg.step hb, h.wk.step hb, h.relf.below hb, h.gb.step hb, h.out, h.hPL, h.hwL, h.hLQ⟩
theorem St.drew (h : St w t s va vn P K wa wn A N L ga gn V Q fb f W) : St w t s va vn P K wa wn A N L ga gn V Q fb f W.drew := h.step ((Below.refl _ _).drew)
theorem St.lL (h : St w t s va vn P K wa wn A N L ga gn V Q fb f W) : L ≤ W.heap.size := Nat.le_of_lt (Nat.lt_of_le_of_lt h.hLQ h.gb.lt)
/-- What lies between the two answers is marked. -/
theorem St.markX {S : Nat → Prop} (h : St w t s va vn P K wa wn A N L ga gn V Q fb f W) (ho : Only S W W') (hS : ∀ b, S b → P < b ∧ w.heap.size < b ∧ b < L) : St w t s va vn P K wa wn A N L ga gn V Q fb f W' :=
  ⟨h.base.trans (ho.below (fun b hb => by have := hS b hb; omega) h.base.size), Kept.only h.arg ho (fun e => by have := hS _ e; omega),
   h.wk.low (ho.below (fun b hb => by have := hS b hb; omega) (by have := h.lL; have := h.hPL; omega)), relF_only h.relf ho (fun b hb => by have := hS b hb; omega), Kept.only h.gb ho (fun e => by have := hS _ e; have := h.hLQ; omega), h.out, h.hPL, h.hwL, h.hLQ⟩
/-- The program's answer is marked. -/
theorem St.markG {fb' : Nat → Value} {f' : Nat → Nat → Value} (h : St w t s va vn P K wa wn A N L ga gn V Q fb f W) (ho : Only (InRel ga A.length N.length V (lenF N)) W W') (hr : RelF W' L ga gn A.length fb' N.length V (lenF N) f') : St w t s va vn P K wa wn A N L ga gn V Q fb' f' W' :=
  ⟨h.base.trans (ho.below (fun b hb => by have := inRel_ge h.relf hb; have := h.hwL; omega) h.base.size), Kept.only h.arg ho (fun e => by have := inRel_ge h.relf e; have := h.hwL; omega),
   h.wk.low (ho.below (fun b hb => by have := inRel_ge h.relf hb; have := h.hPL; omega) (by have := h.lL; have := h.hPL; omega)), hr, Kept.only h.gb ho h.out, h.out, h.hPL, h.hwL, h.hLQ⟩

/-- The same before anything is marked, with the program's argument. -/
structure Ck (w : World) (r : R) (va vn : Value) (P : Nat) (K : Int) (wa wn : Value) (A : List Bool) (N : List (List Int)) (L : Nat) (ga gn : Value) (V : Nat → Value) (Q : Nat) (M X : Nat) (W : World) : Prop where
  st : St w r.tapes r.start va vn P K wa wn A N L ga gn V Q (boolF A) (intF N) W
  built : Built W L ga gn A N
  own : Rel.Own W M r
  xb : Kept W X (.int .i64 r.tapes) (.int .i64 r.start) (.slice (some ⟨M, 0, none⟩) r.accept.length r.accept.length) (.slice (some ⟨M + 1, 0, none⟩) r.next.length r.next.length)
theorem Ck.step {r : R} {M X : Nat} (h : Ck w r va vn P K wa wn A N L ga gn V Q M X W) (hb : Below W.heap.size W W') : Ck w r va vn P K wa wn A N L ga gn V Q M X W' :=
  ⟨h.st.step hb, h.built.below hb, h.own.step hb, h.xb.step hb⟩
theorem Ck.drew {r : R} {M X : Nat} (h : Ck w r va vn P K wa wn A N L ga gn V Q M X W) : Ck w r va vn P K wa wn A N L ga gn V Q M X W.drew := h.step ((Below.refl _ _).drew)
end
theorem copyOwn' (v : Value) (r : R) (W : World) (B : Nat) (hr : RelAt W B v r) (hB : B ≤ W.heap.size) (hs : Short r) :
    Calls Try.prog 11 #[v] W fun e w' => ∃ M, e = .returned (freshV M r) ∧ Rel.Own w' M r ∧ Below W.heap.size W w' ∧ W.heap.size ≤ M :=
  (copyRel v r W B hr hB hs).mono fun _ _ ⟨M, he, h1, h2, hf, hb⟩ => ⟨M, he, ⟨hf, h2⟩, hb, h1⟩
end Go.Proofs.Ytaebeglcoghehaa.LawKit
/- The state of a law's walk over a relation that is answered, beside what the law's arguments are: what is kept when a part of it is marked.
   Conditions: stated at each theorem. -/
namespace Go.Proofs.Ytaebeglcoghehaa.ResKit
set_option linter.unusedVariables false
set_option linter.unusedSimpArgs false
open Go.RowKit Mem Copy Rel Valid Heap Bld MarkRow MarkBool MarkRows MarkRel MarkOf ToL TidyAuto TidyRight SpecRight SpecTidyRel LawKit

/-- What is kept by all that is laid behind block Lo. -/
def Keeps (Lo : Nat) (E : World → Prop) : Prop := ∀ W W', E W → Below Lo W W' → E W'

/-- The law's state: what its arguments are (E), the model's answer, the program's answer. -/
structure St (w : World) (Lo : Nat) (E : World → Prop) (P : Nat) (K : Int) (wa wn : Value) (A : List Bool) (N : List (List Int)) (L : Nat) (ga gn : Value) (V : Nat → Value) (Q : Nat) (fb : Nat → Value) (f : Nat → Nat → Value) (W : World) : Prop where
  base : Below w.heap.size w W
  ext : E W
  wk : WK P K wa wn A N W
  relf : RelF W L ga gn A.length fb N.length V (lenF N) f
  gb : Kept W Q (.int .i64 K) (.int .i64 0) ga gn
  out : ¬ InRel ga A.length N.length V (lenF N) Q
  hPL : P < L
  hLo : Lo ≤ P
  hwL : w.heap.size ≤ Lo
  hLQ : L ≤ Q

section
variable {w : World} {Lo : Nat} {E : World → Prop} {P : Nat} {K : Int} {wa wn : Value} {A : List Bool} {N : List (List Int)} {L : Nat} {ga gn : Value} {V : Nat → Value} {Q : Nat} {fb : Nat → Value} {f : Nat → Nat → Value} {W W' : World}
theorem St.lL (h : St w Lo E P K wa wn A N L ga gn V Q fb f W) : L ≤ W.heap.size := Nat.le_of_lt (Nat.lt_of_le_of_lt h.hLQ h.gb.lt)
theorem St.step (hE : Keeps Lo E) (h : St w Lo E P K wa wn A N L ga gn V Q fb f W) (hb : Below W.heap.size W W') : St w Lo E P K wa wn A N L ga gn V Q fb f W' :=
  ⟨base_step h.base hb, hE _ _ h.ext (hb.mono (by have := h.lL; have := h.hPL; have := h.hLo; omega)), h.wk.step hb, h.relf.below hb, h.gb.step hb, h.out, h.hPL, h.hLo, h.hwL, h.hLQ⟩
theorem St.drew (hE : Keeps Lo E) (h : St w Lo E P K wa wn A N L ga gn V Q fb f W) : St w Lo E P K wa wn A N L ga gn V Q fb f W.drew := h.step hE ((Below.refl _ _).drew)
/-- What lies between the two answers is marked. -/
theorem St.markX (hE : Keeps Lo E) {S : Nat → Prop} (h : St w Lo E P K wa wn A N L ga gn V Q fb f W) (ho : Only S W W') (hS : ∀ b, S b → P < b ∧ b < L) : St w Lo E P K wa wn A N L ga gn V Q fb f W' :=
  have hbP : Below (P + 1) W W' := ho.below (fun b hb => by have := hS b hb; omega) (by have := h.lL; have := h.hPL; omega)
  ⟨h.base.trans (ho.below (fun b hb => by have := hS b hb; have := h.hLo; have := h.hwL; omega) h.base.size), hE _ _ h.ext (hbP.mono (by have := h.hLo; omega)),
   h.wk.low hbP, relF_only h.relf ho (fun b hb => by have := hS b hb; omega), Kept.only h.gb ho (fun e => by have := hS _ e; have := h.hLQ; omega), h.out, h.hPL, h.hLo, h.hwL, h.hLQ⟩
/-- The program's answer is marked. -/
theorem St.markG (hE : Keeps Lo E) {fb' : Nat → Value} {f' : Nat → Nat → Value} (h : St w Lo E P K wa wn A N L ga gn V Q fb f W) (ho : Only (InRel ga A.length N.length V (lenF N)) W W') (hr : RelF W' L ga gn A.length fb' N.length V (lenF N) f') : St w Lo E P K wa wn A N L ga gn V Q fb' f' W' :=
  have hbP : Below (P + 1) W W' := ho.below (fun b hb => by have := inRel_ge h.relf hb; have := h.hPL; omega) (by have := h.lL; have := h.hPL; omega)
  ⟨h.base.trans (ho.below (fun b hb => by have := inRel_ge h.relf hb; have := h.hPL; have := h.hLo; have := h.hwL; omega) h.base.size), hE _ _ h.ext (hbP.mono (by have := h.hLo; omega)),
   h.wk.low hbP, hr, Kept.only h.gb ho h.out, h.out, h.hPL, h.hLo, h.hwL, h.hLQ⟩
end

/-! What is tidied of a small automaton. -/
theorem tidyAcc_len {l : L} (hl : l.Ok) : (tidyAcc l).length ≤ l.acc.length * 8 + 1 := by
  unfold tidyAcc tidAcc
  rw [List.length_map]
  have h1 := met_few (fits hl) (most (auM l))
  have h2 : most (auM l) ≤ (auM l).n := cn_le _ _
  have h3 : (auM l).n = (F l).length + 1 := rfl
  have h4 := places_len hl (l.acc.length * 8)
  have h5 : (F l).length = (places l (l.acc.length * 8)).length := rfl
  unfold tid
  omega
theorem tidyNext_len (l : L) : (tidyNext l).length = (tidyAcc l).length := by
  unfold tidyNext tidyAcc tidNext tidAcc
  rw [List.length_map, List.length_map]
theorem tidyNext_row {l : L} (hl : l.Ok) (i : Nat) : lenF (tidyNext l) i ≤ 26 := by
  unfold lenF
  have hk : wide l.k ≤ 26 := by have := wide_cases hl.k0 hl.k3; omega
  by_cases hi : i < (tidyNext l).length
  · rw [List.getD, List.getElem?_eq_getElem hi, Option.getD_some]
    have hm := List.getElem_mem hi
    obtain ⟨s, -, hs⟩ := List.mem_map.1 (show _ ∈ (tid (auM l) 0).map (tidRow (auM l) 0) from hm)
    rw [← hs]
    unfold tidRow
    rw [List.length_map]
    exact Nat.le_trans (nxM_len _ s) hk
  · rw [List.getD, List.getElem?_eq_none (by omega)]; exact Nat.zero_le _
theorem tidyL_sum {l : L} (hl : l.Ok) (h : (tidyAcc l).length ≤ 150) : 1 + (tidyAcc l).length + sumTo (lenF (tidyNext l)) (tidyNext l).length ≤ 5000 := by
  have h1 := sumTo_le (lenF (tidyNext l)) 26 (tidyNext l).length (tidyNext_row hl)
  have h2 := tidyNext_len l
  omega
theorem few_small {r : R} (hok : okB r = true) (hn : r.accept.length ≤ 18) : few r = true := by
  have h1 := okL hok
  have h2 := tidyAcc_len h1.1.2
  unfold few
  rw [hok]
  have h3 : (toL r).acc.length ≤ 18 := hn
  simp
  omega
where okL {r : R} (h : okB r = true) : (relOf (toL r) = r ∧ (toL r).Ok) ∧ (toL r).acc.length ≤ 150 := SpecTidyRel.okL h
theorem small {r : R} (hok : okB r = true) (hn : r.accept.length ≤ 18) : tidyA r = tidyAcc (toL r) ∧ tidyN r = tidyNext (toL r) ∧ tidyK r = r.tapes ∧ tidyC r = 0 := by
  have hf := few_small hok hn
  have hl : (tidyAcc (toL r)).length ≤ 150 := by
    unfold few at hf
    rw [Bool.and_eq_true] at hf
    exact of_decide_eq_true hf.2
  refine ⟨by unfold tidyA; rw [if_pos hf], by unfold tidyN; rw [if_pos hf], by unfold tidyK; rw [if_pos hf], ?_⟩
  unfold tidyC
  rw [if_pos hok, if_pos hl]
end Go.Proofs.Ytaebeglcoghehaa.ResKit
