
/- Rows of rows of numbers that a law marks and looks at.
   Conditions: stated at each theorem. -/
import Derived.Test.YthebmpdkiocbmaaDoorMarkBool
namespace Go.Proofs.YthebmpdkiocbmaaDoor.MarkRows
set_option linter.unusedVariables false
set_option linter.unusedSimpArgs false
open Go.RowKit Mem Copy Rel MarkRow MarkBool

def sumTo (n : Nat → Nat) : Nat → Nat
  | 0 => 0
  | j + 1 => sumTo n j + n j
theorem sumTo_mono (n : Nat → Nat) {i j : Nat} (h : i ≤ j) : sumTo n i ≤ sumTo n j := by
  obtain ⟨q, rfl⟩ : ∃ q, j = i + q := ⟨j - i, by omega⟩
  clear h
  induction q with
  | zero => exact Nat.le_refl _
  | succ q ih => exact Nat.le_trans ih (by show sumTo n (i + q) ≤ sumTo n (i + q) + n (i + q); omega)

/-- vn is a row of N rows V i, each of n i numbers, pairwise apart; entry c of row i holds f i c. -/
structure RowsF (w : World) (lo : Nat) (vn : Value) (N : Nat) (V : Nat → Value) (n : Nat → Nat) (f : Nat → Nat → Value) : Prop where
  head : Row w lo 34 vn N V
  rows : ∀ i, i < N → Row w lo 2 (V i) (n i) (f i)
  apart : ∀ i j, i < N → j < N → i ≠ j → 0 < n i → 0 < n j → ∀ k, (V i).ownBlock = some k → (V j).ownBlock ≠ some k

theorem rowIs_apart {w : World} {g h t t' m m' : Nat} {F G : Nat → Value} (h1 : w.rowIs g t m F) (h2 : w.rowIs h t' m' G) (ht : t ≠ t') : g ≠ h := by
  obtain ⟨c1, e1, -⟩ := h1
  obtain ⟨c2, e2, -⟩ := h2
  intro e
  subst e
  rw [e1] at e2
  injection e2 with e2
  injection e2 with e3 e4
  exact ht e4
theorem Row.grownOff {w w' : World} {lo : Nat} {t : TypeId} {v : Value} {n : Nat} {f : Nat → Value} {row : Option Nat} (h : Row w lo t v n f) (hg : w.grownBy w' row) (hne : 0 < n → ∀ k, v.ownBlock = some k → row ≠ some k) : Row w' lo t v n f := by
  obtain ⟨a, cap, rfl, h⟩ := h
  exact ⟨a, cap, rfl, fun hn => by
    obtain ⟨g, m, F, rfl, h2, h3, h4, h5⟩ := h hn
    exact ⟨g, m, F, rfl, h2, h3, h4.of_block (hg.block g h4.lt (fun e => hne hn g rfl e.symm)), h5⟩⟩
theorem Row.owned {w : World} {lo : Nat} {t : TypeId} {v : Value} {n : Nat} {f : Nat → Value} (h : Row w lo t v n f) (hn : 0 < n) : ∃ g m F, v.ownBlock = some g ∧ lo ≤ g ∧ w.rowIs g t m F := by
  obtain ⟨a, cap, rfl, h⟩ := h
  obtain ⟨g, m, F, rfl, h2, h3, h4, h5⟩ := h hn
  exact ⟨g, m, F, rfl, h2, h4⟩
theorem Row.congr {w : World} {lo : Nat} {t : TypeId} {v : Value} {n : Nat} {f f' : Nat → Value} (h : Row w lo t v n f) (e : ∀ i, i < n → f i = f' i) : Row w lo t v n f' := by
  obtain ⟨a, cap, rfl, h⟩ := h
  exact ⟨a, cap, rfl, fun hn => by
    obtain ⟨g, m, F, rfl, h2, h3, h4, h5⟩ := h hn
    exact ⟨g, m, F, rfl, h2, h3, h4, fun i hi => (h5 i hi).trans (e i hi)⟩⟩

theorem RowsF.below {w w' : World} {lo : Nat} {vn : Value} {N : Nat} {V : Nat → Value} {n : Nat → Nat} {f : Nat → Nat → Value} (h : RowsF w lo vn N V n f) (hb : Below w.heap.size w w') : RowsF w' lo vn N V n f :=
  ⟨h.head.below hb, fun i hi => (h.rows i hi).below hb, h.apart⟩
theorem RowsF.drewN {w : World} {lo : Nat} {vn : Value} {N : Nat} {V : Nat → Value} {n : Nat → Nat} {f : Nat → Nat → Value} (h : RowsF w lo vn N V n f) (m : Nat) : RowsF (w.drewN m) lo vn N V n f :=
  ⟨h.head.drewN m, fun i hi => (h.rows i hi).drewN m, h.apart⟩

/-- Nothing but the blocks of S has been written, and memory made. -/
structure Only (S : Nat → Prop) (w w' : World) : Prop where
  os : w'.os = w.os
  tape : w'.tape = w.tape
  output : w'.output = w.output
  size : w.heap.size ≤ w'.heap.size
  block : ∀ b, b < w.heap.size → ¬ S b → w'.heap[b]? = w.heap[b]?
theorem Only.refl (S : Nat → Prop) (w : World) : Only S w w := ⟨rfl, rfl, rfl, Nat.le_refl _, fun _ _ _ => rfl⟩
theorem Only.trans {S : Nat → Prop} {w w' w'' : World} (h : Only S w w') (g : Only S w' w'') : Only S w w'' :=
  ⟨g.os.trans h.os, g.tape.trans h.tape, g.output.trans h.output, Nat.le_trans h.size g.size, fun b hb hn => (g.block b (Nat.lt_of_lt_of_le hb h.size) hn).trans (h.block b hb hn)⟩
theorem Only.mono {S T : Nat → Prop} {w w' : World} (h : Only S w w') (hs : ∀ b, S b → T b) : Only T w w' := ⟨h.os, h.tape, h.output, h.size, fun b hb hn => h.block b hb fun e => hn (hs b e)⟩
theorem Only.of_grown {S : Nat → Prop} {w w' : World} {row : Option Nat} (hg : w.grownBy w' row) (hs : ∀ b, row = some b → S b) : Only S w w' :=
  ⟨hg.os, hg.tape, hg.output, hg.size, fun b hb hn => hg.block b hb fun e => hn (hs b e.symm)⟩
theorem Only.below {S : Nat → Prop} {w w' : World} {lo : Nat} (h : Only S w w') (hs : ∀ b, S b → lo ≤ b) (hlo : lo ≤ w.heap.size) : Below lo w w' :=
  ⟨h.os, h.tape, h.output, h.size, fun b hb => h.block b (by omega) fun e => by have := hs b e; omega⟩
theorem Row.only {S : Nat → Prop} {w w' : World} {lo : Nat} {t : TypeId} {v : Value} {n : Nat} {f : Nat → Value} (h : Row w lo t v n f) (ho : Only S w w') (hn : 0 < n → ∀ k, v.ownBlock = some k → ¬ S k) : Row w' lo t v n f := by
  obtain ⟨a, cap, rfl, h⟩ := h
  exact ⟨a, cap, rfl, fun h0 => by
    obtain ⟨g, m, F, rfl, h2, h3, h4, h5⟩ := h h0
    exact ⟨g, m, F, rfl, h2, h3, h4.of_block (ho.block g h4.lt (hn h0 g rfl)), h5⟩⟩
/-- The blocks of the rows. -/
def InRows (N : Nat) (V : Nat → Value) (n : Nat → Nat) (b : Nat) : Prop := ∃ i, i < N ∧ 0 < n i ∧ (V i).ownBlock = some b

theorem mark0 (a : Option Addr) (cap : Nat) (k : Nat) (w : World) : Calls Tryd.prog 23 #[.slice a 0 cap, .int .i64 k] w fun e w' => e = .returned (.int .i64 k) ∧ w = w' := by
  go_enter Tryd.func23, Tryd.ntmps23
  go_wp2
  refine wp_loop_rounds 1 ?_
  rw [rounds_succ]
  go_wp2
  go_ret
  exact ⟨rfl, rfl⟩
theorem markI' (v : Value) (n : Nat) (f : Nat → Value) (k : Nat) (lo : Nat) (w : World) (hr : Row w lo 2 v n f) (hn : n ≤ 1048576) (hk : k ≤ 1048576) :
    Calls Tryd.prog 23 #[v, .int .i64 k] w fun e w' => e = .returned (.int .i64 ((k + n : Nat) : Int)) ∧ Row w' lo 2 v n (fun i => .int .i64 ((k + i : Nat) : Int)) ∧ ((0 < n ∧ w.grownBy w' v.ownBlock) ∨ (n = 0 ∧ w = w')) := by
  by_cases h0 : 0 < n
  · exact (markInts v n f k lo w hr hn hk).mono fun e w' ⟨h1, h2, h3⟩ => ⟨h1, h2, .inl ⟨h0, h3⟩⟩
  · obtain rfl : n = 0 := by omega
    obtain ⟨a, cap, rfl, -⟩ := hr
    exact (mark0 a cap k w).mono fun e w' ⟨h1, h2⟩ => ⟨by rw [h1]; rfl, ⟨a, cap, rfl, fun h => absurd h (Nat.lt_irrefl 0)⟩, .inr ⟨rfl, h2⟩⟩

/-- One row has been marked. -/
theorem RowsF.mark {w w' : World} {lo : Nat} {vn : Value} {N : Nat} {V : Nat → Value} {n : Nat → Nat} {f : Nat → Nat → Value} {j : Nat} {g : Nat → Value} (h : RowsF w lo vn N V n f) (hj : j < N) (hr : Row w' lo 2 (V j) (n j) g)
    (hg : (0 < n j ∧ w.grownBy w' (V j).ownBlock) ∨ (n j = 0 ∧ w = w')) : RowsF w' lo vn N V n (fun i => if i = j then g else f i) := by
  rcases hg with ⟨h0, hg⟩ | ⟨h0, rfl⟩
  · obtain ⟨b, m, F, hb, hlb, hrow⟩ := Row.owned (h.rows j hj) h0
    rw [hb] at hg
    refine ⟨Row.grownOff h.head hg fun hN k hk e => ?_, fun i hi => ?_, h.apart⟩
    · obtain ⟨b', m', F', hb', -, hrow'⟩ := Row.owned h.head hN
      rw [hb'] at hk
      cases hk
      cases e
      exact rowIs_apart hrow hrow' (by decide) rfl
    · by_cases e : i = j
      · subst e; simp only [if_pos rfl]; exact hr
      · simp only [if_neg e]
        exact Row.grownOff (h.rows i hi) hg fun hn k hk e' => h.apart i j hi hj e hn h0 k hk (by rw [hb]; exact e')
  · refine ⟨h.head, fun i hi => ?_, h.apart⟩
    by_cases e : i = j
    · subst e; simp only [if_pos rfl]; exact hr
    · simp only [if_neg e]; exact h.rows i hi

set_option maxHeartbeats 2000000 in
theorem markRows (vn : Value) (N : Nat) (V : Nat → Value) (n : Nat → Nat) (f : Nat → Nat → Value) (k : Nat) (lo : Nat) (w : World) (h : RowsF w lo vn N V n f) (hlo : lo ≤ w.heap.size) (hN : N ≤ 1048576) (hk : 0 < N → k + sumTo n N ≤ 1048576) (hk0 : k ≤ 2097153) :
    Calls Tryd.prog 45 #[vn, .int .i64 k] w fun e w' => e = .returned (.int .i64 ((k + sumTo n N : Nat) : Int)) ∧ RowsF w' lo vn N V n (fun i c => .int .i64 ((k + sumTo n i + c : Nat) : Int)) ∧ Only (InRows N V n) w w' := by
  obtain ⟨a, cap, hvn, hhead⟩ := h.head
  have HF := Lib.hid h
  subst hvn
  clear h hhead
  go_enter Tryd.func45, Tryd.ntmps45
  go_wp2
  go_loopw [1, 5] (fun kk i wr => ∃ j : Nat, j ≤ N ∧ i = .int .i64 j ∧ kk = .int .i64 ((k + sumTo n j : Nat) : Int) ∧ RowsF wr lo (.slice a N cap) N V n (fun i c => if i < j then .int .i64 ((k + sumTo n i + c : Nat) : Int) else f i c) ∧ Only (InRows N V n) w wr) (fun _ i _ => N - (intOf i).toNat)
  case atStart => exact ⟨0, Nat.zero_le _, rfl, rfl, ⟨HF.out.head, fun i hi => Row.congr (HF.out.rows i hi) (fun c hc => by rw [if_neg (Nat.not_lt_zero i)]), HF.out.apart⟩, Only.refl _ _⟩
  case round =>
    obtain ⟨j, hj, rfl, rfl, hrows, hbel⟩ := hrel
    have HR := Lib.hid hrows
    have HB := Lib.hid hbel
    have hsz : lo ≤ wr.heap.size := Nat.le_trans hlo hbel.size
    have HSZ := Lib.hid hsz
    by_cases hlt : j < N
    · obtain ⟨a', cap', e, hh⟩ := hrows.head
      obtain ⟨g, m, G, hg, hlg, hNm, hrow, hG⟩ := hh (by omega)
      have e' : a = a' := by injection e
      subst e'
      subst hg
      have cA := hrow.cell (show j < m by omega)
      rw [hG j hlt] at cA
      have hgl := hrow.lt
      have hkj : k + sumTo n j + n j ≤ 1048576 := by have := sumTo_mono n (show j + 1 ≤ N from hlt); simp only [sumTo] at this; have := hk (by omega); omega
      have HM := Lib.hid (markI' (V j) (n j) _ (k + sumTo n j) lo wr (HR.out.rows j hlt) (by omega) (by omega))
      obtain ⟨s, hs⟩ : ∃ s, s = k + sumTo n j := ⟨_, rfl⟩
      have HS := Lib.hid hs
      rw [← hs] at HM hkj
      rw [← hs]
      obtain ⟨v, hv⟩ : ∃ v, v = V j := ⟨_, rfl⟩
      have HV := Lib.hid hv
      rw [← hv] at cA HM
      obtain ⟨q, hq⟩ : ∃ q, q = n j := ⟨_, rfl⟩
      have HQ := Lib.hid hq
      rw [← hq] at HM hkj
      clear hs hv hq hrows hbel hrow hG hh e hsz
      go_wp2_with fail
      refine HM.out.mono ?_
      rintro e w1 ⟨rfl, hr1, hg1⟩
      have H1 := Lib.hid hr1
      have H2 := Lib.hid hg1
      clear hr1 hg1 HM
      go_wp2_with fail
      go_roundw
      case rel =>
        have hmk := RowsF.mark HR.out hlt (by rw [← HV.out, ← HQ.out]; exact H1.out) (by rw [← HV.out, ← HQ.out]; exact H2.out)
        refine ⟨j + 1, hlt, by go_num, ?_, ⟨hmk.head, fun i hi => Row.congr (hmk.rows i hi) fun c hc => ?_, hmk.apart⟩, ?_⟩
        · rw [HS.out, HQ.out]; simp only [sumTo]; exact congrArg (Value.int .i64) (by omega)
        · by_cases e : i = j
          · subst e; rw [if_pos (Nat.lt_succ_self i), if_pos rfl, HS.out]
          · have h1 : (i < j + 1) = (i < j) := by apply propext; constructor <;> intro h <;> omega
            simp only [if_neg e, h1]
        · rcases H2.out with ⟨h0, hg⟩ | ⟨h0, rfl⟩
          · exact HB.out.trans (Only.of_grown hg fun b hb => ⟨j, hlt, by rw [← HQ.out]; exact h0, by rw [← HV.out]; exact hb⟩)
          · exact HB.out
      case measure => simp [intOf]; omega
    · obtain rfl : j = N := by omega
      clear hrows hbel
      go_wp2_with fail
      go_ret
      exact ⟨rfl, ⟨HR.out.head, fun i hi => Row.congr (HR.out.rows i hi) (fun c hc => by rw [if_pos hi]), HR.out.apart⟩, HB.out⟩
set_option maxHeartbeats 2000000 in
theorem heldRows (vn : Value) (N : Nat) (V : Nat → Value) (n : Nat → Nat) (k : Nat) (lo : Nat) (w : World) (h : RowsF w lo vn N V n (fun i c => .int .i64 ((k + sumTo n i + c : Nat) : Int))) (hN : N ≤ 1048576) (hk : 0 < N → k + sumTo n N ≤ 1048576) (hk0 : k ≤ 2097152) :
    Calls Tryd.prog 47 #[vn, .int .i64 k] w fun e w' => e = .returned (.int .i64 ((k + sumTo n N : Nat) : Int)) ∧ w = w' := by
  have HF := Lib.hid h
  obtain ⟨a, cap, rfl, hh⟩ := h.head
  clear h
  go_enter Tryd.func47, Tryd.ntmps47
  go_wp2
  go_loop [1, 5] (fun kk i => ∃ j : Nat, j ≤ N ∧ i = .int .i64 j ∧ kk = .int .i64 ((k + sumTo n j : Nat) : Int)) (fun _ i => N - (intOf i).toNat)
  case atStart => exact ⟨0, Nat.zero_le _, rfl, rfl⟩
  case round =>
    obtain ⟨j, hj, rfl, rfl⟩ := hrel
    by_cases hlt : j < N
    · obtain ⟨g, m, G, rfl, hlg, hNm, hrow, hG⟩ := hh (by omega)
      have cA := hrow.cell (show j < m by omega)
      rw [hG j hlt] at cA
      have hgl := hrow.lt
      have hkj : k + sumTo n j + n j ≤ 1048576 := by have := sumTo_mono n (show j + 1 ≤ N from hlt); simp only [sumTo] at this; have := hk (by omega); omega
      have hrd := (HF.out.rows j hlt).reads (by unfold maxLen; omega)
      have HM := Lib.hid (heldInts (V j) (n j) (k + sumTo n j) w.heap.size w hrd (by omega) (by omega))
      obtain ⟨s, hs⟩ : ∃ s, s = k + sumTo n j := ⟨_, rfl⟩
      have HS := Lib.hid hs
      rw [← hs] at HM hkj
      rw [← hs]
      obtain ⟨v, hv⟩ : ∃ v, v = V j := ⟨_, rfl⟩
      rw [← hv] at cA HM
      obtain ⟨q, hq⟩ : ∃ q, q = n j := ⟨_, rfl⟩
      have HQ := Lib.hid hq
      rw [← hq] at HM hkj
      clear hs hv hq hrow hG hh hrd
      go_wp2_with fail
      refine HM.out.mono ?_
      rintro e w1 ⟨rfl, rfl⟩
      go_wp2_with fail
      go_round
      case rel => exact ⟨j + 1, hlt, by go_num, by rw [HS.out, HQ.out]; simp only [sumTo]; exact congrArg (Value.int .i64) (by omega)⟩
      case measure => simp [intOf]; omega
    · obtain rfl : j = N := by omega
      clear hh
      go_wp2_with fail
      go_ret
      exact ⟨rfl, rfl⟩
end Go.Proofs.YthebmpdkiocbmaaDoor.MarkRows
