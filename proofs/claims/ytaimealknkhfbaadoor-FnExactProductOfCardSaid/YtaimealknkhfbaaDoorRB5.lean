
/- Rows of rows of numbers that a law marks and looks at.
   Conditions: stated at each theorem. -/
import Derived.Test.YtaimealknkhfbaaDoorRB4
import Derived.Test.YtaimealknkhfbaaDoorRB3
import Derived.Maps.AppendAt
import Derived.Deep.AppendLies
import Derived.Deep.RegionLaw
namespace Go.Proofs.YtaimealknkhfbaaDoor.MarkRows
set_option linter.unusedVariables false
set_option linter.unusedSimpArgs false
open Go.RowKit Mem Copy Rel MarkRow MarkBool

def sumTo (n : Nat → Nat) : Nat → Nat
  | 0 => 0
  | j + 1 => sumTo n j + n j
theorem sumTo_mono (n : Nat → Nat) {i j : Nat} (h : i ≤ j) : sumTo n i ≤ sumTo n j := by
  obtain ⟨q, rfl⟩ : ∃ q, j = i + q := ⟨j - i, by omega⟩
  clear h
  induction q with
  | zero => exact Nat.le_refl _
  | succ q ih => exact Nat.le_trans ih (by show sumTo n (i + q) ≤ sumTo n (i + q) + n (i + q); omega)

/-- vn is a row of N rows V i, each of n i numbers, pairwise apart; entry c of row i holds f i c. -/
structure RowsF (w : World) (lo : Nat) (vn : Value) (N : Nat) (V : Nat → Value) (n : Nat → Nat) (f : Nat → Nat → Value) : Prop where
  head : Row w lo 52 vn N V
  rows : ∀ i, i < N → Row w lo 2 (V i) (n i) (f i)
  apart : ∀ i j, i < N → j < N → i ≠ j → 0 < n i → 0 < n j → ∀ k, (V i).ownBlock = some k → (V j).ownBlock ≠ some k

theorem rowIs_apart {w : World} {g h t t' m m' : Nat} {F G : Nat → Value} (h1 : w.rowIs g t m F) (h2 : w.rowIs h t' m' G) (ht : t ≠ t') : g ≠ h := by
  obtain ⟨c1, e1, -⟩ := h1
  obtain ⟨c2, e2, -⟩ := h2
  intro e
  subst e
  rw [e1] at e2
  injection e2 with e2
  injection e2 with e3 e4
  exact ht e4
theorem Row.grownOff {w w' : World} {lo : Nat} {t : TypeId} {v : Value} {n : Nat} {f : Nat → Value} {row : Option Nat} (h : Row w lo t v n f) (hg : w.grownBy w' row) (hne : 0 < n → ∀ k, v.ownBlock = some k → row ≠ some k) : Row w' lo t v n f := by
  obtain ⟨a, cap, rfl, h⟩ := h
  exact ⟨a, cap, rfl, fun hn => by
    obtain ⟨g, m, F, rfl, h2, h3, h4, h5⟩ := h hn
    exact ⟨g, m, F, rfl, h2, h3, h4.of_block (hg.block g h4.lt (fun e => hne hn g rfl e.symm)), h5⟩⟩
theorem Row.owned {w : World} {lo : Nat} {t : TypeId} {v : Value} {n : Nat} {f : Nat → Value} (h : Row w lo t v n f) (hn : 0 < n) : ∃ g m F, v.ownBlock = some g ∧ lo ≤ g ∧ w.rowIs g t m F := by
  obtain ⟨a, cap, rfl, h⟩ := h
  obtain ⟨g, m, F, rfl, h2, h3, h4, h5⟩ := h hn
  exact ⟨g, m, F, rfl, h2, h4⟩
theorem Row.congr {w : World} {lo : Nat} {t : TypeId} {v : Value} {n : Nat} {f f' : Nat → Value} (h : Row w lo t v n f) (e : ∀ i, i < n → f i = f' i) : Row w lo t v n f' := by
  obtain ⟨a, cap, rfl, h⟩ := h
  exact ⟨a, cap, rfl, fun hn => by
    obtain ⟨g, m, F, rfl, h2, h3, h4, h5⟩ := h hn
    exact ⟨g, m, F, rfl, h2, h3, h4, fun i hi => (h5 i hi).trans (e i hi)⟩⟩

theorem RowsF.below {w w' : World} {lo : Nat} {vn : Value} {N : Nat} {V : Nat → Value} {n : Nat → Nat} {f : Nat → Nat → Value} (h : RowsF w lo vn N V n f) (hb : Below w.heap.size w w') : RowsF w' lo vn N V n f :=
  ⟨h.head.below hb, fun i hi => (h.rows i hi).below hb, h.apart⟩
theorem RowsF.drewN {w : World} {lo : Nat} {vn : Value} {N : Nat} {V : Nat → Value} {n : Nat → Nat} {f : Nat → Nat → Value} (h : RowsF w lo vn N V n f) (m : Nat) : RowsF (w.drewN m) lo vn N V n f :=
  ⟨h.head.drewN m, fun i hi => (h.rows i hi).drewN m, h.apart⟩

/-- Nothing but the blocks of S has been written, and memory made. -/
structure Only (S : Nat → Prop) (w w' : World) : Prop where
  os : w'.os = w.os
  tape : w'.tape = w.tape
  output : w'.output = w.output
  size : w.heap.size ≤ w'.heap.size
  block : ∀ b, b < w.heap.size → ¬ S b → w'.heap[b]? = w.heap[b]?
theorem Only.refl (S : Nat → Prop) (w : World) : Only S w w := ⟨rfl, rfl, rfl, Nat.le_refl _, fun _ _ _ => rfl⟩
theorem Only.trans {S : Nat → Prop} {w w' w'' : World} (h : Only S w w') (g : Only S w' w'') : Only S w w'' :=
  ⟨g.os.trans h.os, g.tape.trans h.tape, g.output.trans h.output, Nat.le_trans h.size g.size, fun b hb hn => (g.block b (Nat.lt_of_lt_of_le hb h.size) hn).trans (h.block b hb hn)⟩
theorem Only.mono {S T : Nat → Prop} {w w' : World} (h : Only S w w') (hs : ∀ b, S b → T b) : Only T w w' := ⟨h.os, h.tape, h.output, h.size, fun b hb hn => h.block b hb fun e => hn (hs b e)⟩
theorem Only.of_grown {S : Nat → Prop} {w w' : World} {row : Option Nat} (hg : w.grownBy w' row) (hs : ∀ b, row = some b → S b) : Only S w w' :=
  ⟨hg.os, hg.tape, hg.output, hg.size, fun b hb hn => hg.block b hb fun e => hn (hs b e.symm)⟩
theorem Only.below {S : Nat → Prop} {w w' : World} {lo : Nat} (h : Only S w w') (hs : ∀ b, S b → lo ≤ b) (hlo : lo ≤ w.heap.size) : Below lo w w' :=
  ⟨h.os, h.tape, h.output, h.size, fun b hb => h.block b (by omega) fun e => by have := hs b e; omega⟩
theorem Row.only {S : Nat → Prop} {w w' : World} {lo : Nat} {t : TypeId} {v : Value} {n : Nat} {f : Nat → Value} (h : Row w lo t v n f) (ho : Only S w w') (hn : 0 < n → ∀ k, v.ownBlock = some k → ¬ S k) : Row w' lo t v n f := by
  obtain ⟨a, cap, rfl, h⟩ := h
  exact ⟨a, cap, rfl, fun h0 => by
    obtain ⟨g, m, F, rfl, h2, h3, h4, h5⟩ := h h0
    exact ⟨g, m, F, rfl, h2, h3, h4.of_block (ho.block g h4.lt (hn h0 g rfl)), h5⟩⟩
/-- The blocks of the rows. -/
def InRows (N : Nat) (V : Nat → Value) (n : Nat → Nat) (b : Nat) : Prop := ∃ i, i < N ∧ 0 < n i ∧ (V i).ownBlock = some b

theorem mark0 (a : Option Addr) (cap : Nat) (k : Nat) (w : World) : Calls Tryd.prog 44 #[.slice a 0 cap, .int .i64 k] w fun e w' => e = .returned (.int .i64 k) ∧ w = w' := by
  go_enter Tryd.func44, Tryd.ntmps44
  go_wp2
  refine wp_loop_rounds 1 ?_
  rw [rounds_succ]
  go_wp2
  go_ret
  exact ⟨rfl, rfl⟩
theorem markI' (v : Value) (n : Nat) (f : Nat → Value) (k : Nat) (lo : Nat) (w : World) (hr : Row w lo 2 v n f) (hn : n ≤ 1048576) (hk : k ≤ 1048576) :
    Calls Tryd.prog 44 #[v, .int .i64 k] w fun e w' => e = .returned (.int .i64 ((k + n : Nat) : Int)) ∧ Row w' lo 2 v n (fun i => .int .i64 ((k + i : Nat) : Int)) ∧ ((0 < n ∧ w.grownBy w' v.ownBlock) ∨ (n = 0 ∧ w = w')) := by
  by_cases h0 : 0 < n
  · exact (markInts v n f k lo w hr hn hk).mono fun e w' ⟨h1, h2, h3⟩ => ⟨h1, h2, .inl ⟨h0, h3⟩⟩
  · obtain rfl : n = 0 := by omega
    obtain ⟨a, cap, rfl, -⟩ := hr
    exact (mark0 a cap k w).mono fun e w' ⟨h1, h2⟩ => ⟨by rw [h1]; rfl, ⟨a, cap, rfl, fun h => absurd h (Nat.lt_irrefl 0)⟩, .inr ⟨rfl, h2⟩⟩

/-- One row has been marked. -/
theorem RowsF.mark {w w' : World} {lo : Nat} {vn : Value} {N : Nat} {V : Nat → Value} {n : Nat → Nat} {f : Nat → Nat → Value} {j : Nat} {g : Nat → Value} (h : RowsF w lo vn N V n f) (hj : j < N) (hr : Row w' lo 2 (V j) (n j) g)
    (hg : (0 < n j ∧ w.grownBy w' (V j).ownBlock) ∨ (n j = 0 ∧ w = w')) : RowsF w' lo vn N V n (fun i => if i = j then g else f i) := by
  rcases hg with ⟨h0, hg⟩ | ⟨h0, rfl⟩
  · obtain ⟨b, m, F, hb, hlb, hrow⟩ := Row.owned (h.rows j hj) h0
    rw [hb] at hg
    refine ⟨Row.grownOff h.head hg fun hN k hk e => ?_, fun i hi => ?_, h.apart⟩
    · obtain ⟨b', m', F', hb', -, hrow'⟩ := Row.owned h.head hN
      rw [hb'] at hk
      cases hk
      cases e
      exact rowIs_apart hrow hrow' (by decide) rfl
    · by_cases e : i = j
      · subst e; simp only [if_pos rfl]; exact hr
      · simp only [if_neg e]
        exact Row.grownOff (h.rows i hi) hg fun hn k hk e' => h.apart i j hi hj e hn h0 k hk (by rw [hb]; exact e')
  · refine ⟨h.head, fun i hi => ?_, h.apart⟩
    by_cases e : i = j
    · subst e; simp only [if_pos rfl]; exact hr
    · simp only [if_neg e]; exact h.rows i hi

set_option maxHeartbeats 2000000 in
theorem markRows (vn : Value) (N : Nat) (V : Nat → Value) (n : Nat → Nat) (f : Nat → Nat → Value) (k : Nat) (lo : Nat) (w : World) (h : RowsF w lo vn N V n f) (hlo : lo ≤ w.heap.size) (hN : N ≤ 1048576) (hk : 0 < N → k + sumTo n N ≤ 1048576) (hk0 : k ≤ 2097153) :
    Calls Tryd.prog 25 #[vn, .int .i64 k] w fun e w' => e = .returned (.int .i64 ((k + sumTo n N : Nat) : Int)) ∧ RowsF w' lo vn N V n (fun i c => .int .i64 ((k + sumTo n i + c : Nat) : Int)) ∧ Only (InRows N V n) w w' := by
  obtain ⟨a, cap, hvn, hhead⟩ := h.head
  have HF := Lib.hid h
  subst hvn
  clear h hhead
  go_enter Tryd.func25, Tryd.ntmps25
  go_wp2
  go_loopw [1, 5] (fun kk i wr => ∃ j : Nat, j ≤ N ∧ i = .int .i64 j ∧ kk = .int .i64 ((k + sumTo n j : Nat) : Int) ∧ RowsF wr lo (.slice a N cap) N V n (fun i c => if i < j then .int .i64 ((k + sumTo n i + c : Nat) : Int) else f i c) ∧ Only (InRows N V n) w wr) (fun _ i _ => N - (intOf i).toNat)
  case atStart => exact ⟨0, Nat.zero_le _, rfl, rfl, ⟨HF.out.head, fun i hi => Row.congr (HF.out.rows i hi) (fun c hc => by rw [if_neg (Nat.not_lt_zero i)]), HF.out.apart⟩, Only.refl _ _⟩
  case round =>
    obtain ⟨j, hj, rfl, rfl, hrows, hbel⟩ := hrel
    have HR := Lib.hid hrows
    have HB := Lib.hid hbel
    have hsz : lo ≤ wr.heap.size := Nat.le_trans hlo hbel.size
    have HSZ := Lib.hid hsz
    by_cases hlt : j < N
    · obtain ⟨a', cap', e, hh⟩ := hrows.head
      obtain ⟨g, m, G, hg, hlg, hNm, hrow, hG⟩ := hh (by omega)
      have e' : a = a' := by injection e
      subst e'
      subst hg
      have cA := hrow.cell (show j < m by omega)
      rw [hG j hlt] at cA
      have hgl := hrow.lt
      have hkj : k + sumTo n j + n j ≤ 1048576 := by have := sumTo_mono n (show j + 1 ≤ N from hlt); simp only [sumTo] at this; have := hk (by omega); omega
      have HM := Lib.hid (markI' (V j) (n j) _ (k + sumTo n j) lo wr (HR.out.rows j hlt) (by omega) (by omega))
      obtain ⟨s, hs⟩ : ∃ s, s = k + sumTo n j := ⟨_, rfl⟩
      have HS := Lib.hid hs
      rw [← hs] at HM hkj
      rw [← hs]
      obtain ⟨v, hv⟩ : ∃ v, v = V j := ⟨_, rfl⟩
      have HV := Lib.hid hv
      rw [← hv] at cA HM
      obtain ⟨q, hq⟩ : ∃ q, q = n j := ⟨_, rfl⟩
      have HQ := Lib.hid hq
      rw [← hq] at HM hkj
      clear hs hv hq hrows hbel hrow hG hh e hsz
      go_wp2_with fail
      refine HM.out.mono ?_
      rintro e w1 ⟨rfl, hr1, hg1⟩
      have H1 := Lib.hid hr1
      have H2 := Lib.hid hg1
      clear hr1 hg1 HM
      go_wp2_with fail
      go_roundw
      case rel =>
        have hmk := RowsF.mark HR.out hlt (by rw [← HV.out, ← HQ.out]; exact H1.out) (by rw [← HV.out, ← HQ.out]; exact H2.out)
        refine ⟨j + 1, hlt, by go_num, ?_, ⟨hmk.head, fun i hi => Row.congr (hmk.rows i hi) fun c hc => ?_, hmk.apart⟩, ?_⟩
        · rw [HS.out, HQ.out]; simp only [sumTo]; exact congrArg (Value.int .i64) (by omega)
        · by_cases e : i = j
          · subst e; rw [if_pos (Nat.lt_succ_self i), if_pos rfl, HS.out]
          · have h1 : (i < j + 1) = (i < j) := by apply propext; constructor <;> intro h <;> omega
            simp only [if_neg e, h1]
        · rcases H2.out with ⟨h0, hg⟩ | ⟨h0, rfl⟩
          · exact HB.out.trans (Only.of_grown hg fun b hb => ⟨j, hlt, by rw [← HQ.out]; exact h0, by rw [← HV.out]; exact hb⟩)
          · exact HB.out
      case measure => simp [intOf]; omega
    · obtain rfl : j = N := by omega
      clear hrows hbel
      go_wp2_with fail
      go_ret
      exact ⟨rfl, ⟨HR.out.head, fun i hi => Row.congr (HR.out.rows i hi) (fun c hc => by rw [if_pos hi]), HR.out.apart⟩, HB.out⟩
set_option maxHeartbeats 2000000 in
theorem heldRows (vn : Value) (N : Nat) (V : Nat → Value) (n : Nat → Nat) (k : Nat) (lo : Nat) (w : World) (h : RowsF w lo vn N V n (fun i c => .int .i64 ((k + sumTo n i + c : Nat) : Int))) (hN : N ≤ 1048576) (hk : 0 < N → k + sumTo n N ≤ 1048576) (hk0 : k ≤ 2097152) :
    Calls Tryd.prog 27 #[vn, .int .i64 k] w fun e w' => e = .returned (.int .i64 ((k + sumTo n N : Nat) : Int)) ∧ w = w' := by
  have HF := Lib.hid h
  obtain ⟨a, cap, rfl, hh⟩ := h.head
  clear h
  go_enter Tryd.func27, Tryd.ntmps27
  go_wp2
  go_loop [1, 5] (fun kk i => ∃ j : Nat, j ≤ N ∧ i = .int .i64 j ∧ kk = .int .i64 ((k + sumTo n j : Nat) : Int)) (fun _ i => N - (intOf i).toNat)
  case atStart => exact ⟨0, Nat.zero_le _, rfl, rfl⟩
  case round =>
    obtain ⟨j, hj, rfl, rfl⟩ := hrel
    by_cases hlt : j < N
    · obtain ⟨g, m, G, rfl, hlg, hNm, hrow, hG⟩ := hh (by omega)
      have cA := hrow.cell (show j < m by omega)
      rw [hG j hlt] at cA
      have hgl := hrow.lt
      have hkj : k + sumTo n j + n j ≤ 1048576 := by have := sumTo_mono n (show j + 1 ≤ N from hlt); simp only [sumTo] at this; have := hk (by omega); omega
      have hrd := (HF.out.rows j hlt).reads (by unfold maxLen; omega)
      have HM := Lib.hid (heldInts (V j) (n j) (k + sumTo n j) w.heap.size w hrd (by omega) (by omega))
      obtain ⟨s, hs⟩ : ∃ s, s = k + sumTo n j := ⟨_, rfl⟩
      have HS := Lib.hid hs
      rw [← hs] at HM hkj
      rw [← hs]
      obtain ⟨v, hv⟩ : ∃ v, v = V j := ⟨_, rfl⟩
      rw [← hv] at cA HM
      obtain ⟨q, hq⟩ : ∃ q, q = n j := ⟨_, rfl⟩
      have HQ := Lib.hid hq
      rw [← hq] at HM hkj
      clear hs hv hq hrow hG hh hrd
      go_wp2_with fail
      refine HM.out.mono ?_
      rintro e w1 ⟨rfl, rfl⟩
      go_wp2_with fail
      go_round
      case rel => exact ⟨j + 1, hlt, by go_num, by rw [HS.out, HQ.out]; simp only [sumTo]; exact congrArg (Value.int .i64) (by omega)⟩
      case measure => simp [intOf]; omega
    · obtain rfl : j = N := by omega
      clear hh
      go_wp2_with fail
      go_ret
      exact ⟨rfl, rfl⟩
end Go.Proofs.YtaimealknkhfbaaDoor.MarkRows
/- Lists that a function makes and appends to: what they hold, what stays of them when other memory is written, and one law for appending one element.
   Conditions: stated at each theorem. -/
namespace Go.Proofs.YtaimealknkhfbaaDoor.Heap
set_option linter.unusedVariables false
set_option linter.unusedSimpArgs false
open Go.RowKit Mem Copy

/-- The slice value v is a list of the function's own with the elements xs, of one cell each. -/
def Lst (w : World) (B : Nat) (t : TypeId) (v : Value) (xs : List Value) : Prop := w.ownsRow B t 1 v xs.length xs

theorem size_alloc' (w : World) (o : Obj) : (w.alloc o).heap.size = w.heap.size + 1 := by simp
theorem Lst.nil (w : World) (B : Nat) (t : TypeId) : Lst w B t (.slice none 0 0) [] := World.ownsRow_nil w B t 1

theorem Lst.lt {w : World} {B : Nat} {t : TypeId} {v : Value} {xs : List Value} (h : Lst w B t v xs) {k : Nat} (hk : v.ownBlock = some k) : k < w.heap.size := (World.ownsRow.lt h k hk).2
theorem Lst.ge {w : World} {B : Nat} {t : TypeId} {v : Value} {xs : List Value} (h : Lst w B t v xs) {k : Nat} (hk : v.ownBlock = some k) : B ≤ k := (World.ownsRow.lt h k hk).1
theorem Lst.mono {w : World} {B C : Nat} {t : TypeId} {v : Value} {xs : List Value} (h : Lst w B t v xs) (hC : C ≤ B) : Lst w C t v xs := by
  refine ⟨h.1, ?_⟩
  rcases h.2 with h' | ⟨g, cap, cur, hv, hbg, r⟩
  · exact .inl h'
  · exact .inr ⟨g, cap, cur, hv, Nat.le_trans hC hbg, r⟩

theorem Lst.of_block {w w' : World} {B : Nat} {t : TypeId} {v : Value} {xs : List Value} (h : Lst w B t v xs) (hb : ∀ k, v.ownBlock = some k → w'.heap[k]? = w.heap[k]?) : Lst w' B t v xs := by
  refine ⟨h.1, ?_⟩
  rcases h.2 with h' | ⟨g, cap, cur, hv, hbg, hh, r⟩
  · exact .inl h'
  · refine .inr ⟨g, cap, cur, hv, hbg, ?_, r⟩
    rw [hb g (by rw [hv]; rfl)]; exact hh
theorem Lst.grown {w w' : World} {B : Nat} {t : TypeId} {v : Value} {xs : List Value} {row : Option Nat} (h : Lst w B t v xs) (hg : w.grownBy w' row) (hr : ∀ k, row = some k → v.ownBlock ≠ some k) : Lst w' B t v xs :=
  h.of_block fun k hk => hg.block k (h.lt hk) (fun e => hr k e.symm hk)
theorem Lst.below {w w' : World} {B : Nat} {t : TypeId} {v : Value} {xs : List Value} (h : Lst w B t v xs) (hb : Below w.heap.size w w') : Lst w' B t v xs :=
  h.of_block fun k hk => hb.block k (h.lt hk)
theorem Lst.alloc {w : World} {B : Nat} {t : TypeId} {v : Value} {xs : List Value} (h : Lst w B t v xs) (o : Obj) : Lst (w.alloc o) B t v xs := h.below ((Below.refl _ _).alloc (Nat.le_refl _) _)
theorem Lst.drew {w : World} {B : Nat} {t : TypeId} {v : Value} {xs : List Value} (h : Lst w B t v xs) : Lst w.drew B t v xs := h
theorem Lst.drewN {w : World} {B : Nat} {t : TypeId} {v : Value} {xs : List Value} (h : Lst w B t v xs) (m : Nat) : Lst (w.drewN m) B t v xs := h
theorem Lst.setOther {w : World} {B : Nat} {t : TypeId} {v : Value} {xs : List Value} (h : Lst w B t v xs) {a : Addr} (ha : v.ownBlock ≠ some a.block) (u : Value) : Lst (w.setCell a u) B t v xs :=
  h.of_block fun k hk => Below.heap_setCell _ _ _ _ (fun e => ha (by rw [← e]; exact hk))

/-- A list that is not empty lies in a block. -/
theorem Lst.view {w : World} {B : Nat} {t : TypeId} {v : Value} {xs : List Value} (h : Lst w B t v xs) (hn : 0 < xs.length) :
    ∃ g cap, v = .slice (some ⟨g, 0, none⟩) xs.length cap ∧ g < w.heap.size ∧ (∀ i (hi : i < xs.length), w.cell? ⟨g, i, none⟩ = some xs[i]) ∧ ∀ i, w.frozen? ⟨g, i, none⟩ = false := by
  rcases h.2 with ⟨rfl, h0⟩ | ⟨g, cap, cur, rfl, hbg, hh, hnc, hc, hs, ht⟩
  · omega
  · refine ⟨g, cap, rfl, lt_of_block hh, fun i hi => ?_, fun i => by simp [World.frozen?, hh]⟩
    have h1 : i < cur.size := by omega
    have h2 : xs[i] = cur.toList[i]'(by simpa using h1) := by
      have : xs = cur.toList.take (xs.length * 1) := ht.symm
      rw [List.getElem_of_eq this hi, List.getElem_take]
    rw [h2]
    simp [World.cell?, hh, h1]

theorem Lst.shape {w : World} {B : Nat} {t : TypeId} {v : Value} {xs : List Value} (h : Lst w B t v xs) : ∃ a cap, v = .slice a xs.length cap ∧ (0 < xs.length → ∃ g, a = some ⟨g, 0, none⟩) := by
  rcases h.2 with ⟨rfl, h0⟩ | ⟨g, cap, cur, rfl, hbg, hh, hnc, hc, hs, ht⟩
  · exact ⟨none, 0, by rw [h0], fun h => by omega⟩
  · exact ⟨_, _, rfl, fun _ => ⟨g, rfl⟩⟩

theorem Lst.shape' {w : World} {B : Nat} {t : TypeId} {v : Value} {xs : List Value} (h : Lst w B t v xs) : ∃ a n cap, v = .slice a n cap ∧ Hid (n = xs.length) := by
  obtain ⟨a, cap, hv, -⟩ := h.shape
  exact ⟨a, _, cap, hv, rfl⟩
theorem Lst.cellOf {w : World} {B : Nat} {t : TypeId} {g n cap : Nat} {xs : List Value} (h : Lst w B t (.slice (some ⟨g, 0, none⟩) n cap) xs) {i : Nat} (hi : i < xs.length) : w.cell? ⟨g, i, none⟩ = some xs[i] := by
  obtain ⟨g', cap', hv, -, hc, -⟩ := h.view (by omega)
  have e : (some (⟨g, 0, none⟩ : Addr)) = some ⟨g', 0, none⟩ := by injection hv
  cases e
  exact hc i hi
theorem Lst.free {w : World} {B : Nat} {t : TypeId} {g n cap : Nat} {xs : List Value} (h : Lst w B t (.slice (some ⟨g, 0, none⟩) n cap) xs) (i : Nat) : w.frozen? ⟨g, i, none⟩ = false := by
  rcases h.2 with ⟨h', h0⟩ | ⟨g', cap', cur, hv, hbg, hh, -⟩
  · cases h'
  · have e : (some (⟨g, 0, none⟩ : Addr)) = some ⟨g', 0, none⟩ := by injection hv
    cases e
    simp [World.frozen?, hh]
theorem Lst.addr {w : World} {B : Nat} {t : TypeId} {a : Option Addr} {n cap : Nat} {xs : List Value} (h : Lst w B t (.slice a n cap) xs) (hn : 0 < xs.length) : ∃ g, a = some ⟨g, 0, none⟩ ∧ g < w.heap.size := by
  obtain ⟨g', cap', hv, hl, -⟩ := h.view hn
  exact ⟨g', by injection hv, hl⟩

/-- A store into a list. -/
theorem Lst.set {w : World} {B : Nat} {t : TypeId} {g n cap : Nat} {xs : List Value} (h : Lst w B t (.slice (some ⟨g, 0, none⟩) n cap) xs) {i : Nat} (hi : i < xs.length) (u : Value) :
    Lst (w.setCell ⟨g, i, none⟩ u) B t (.slice (some ⟨g, 0, none⟩) n cap) (xs.set i u) := by
  rcases h.2 with ⟨h', h0⟩ | ⟨g', cap', cur, hv, hbg, hh, hnc, hc, hs, ht⟩
  · cases h'
  · cases hv
    refine ⟨by simp, .inr ⟨g, cap, cur.set i u (by omega), by simp, hbg, ?_, by simpa using hnc, hc, by simpa using hs, ?_⟩⟩
    · have hlt := lt_of_block hh
      have h' : w.heap[g] = .cells cur t (0, 0) := by simpa [Array.getElem?_eq_getElem hlt] using hh
      show (w.heap.modify g _)[g]? = _
      rw [Array.getElem?_eq_getElem (by simpa using hlt), Array.getElem_modify_self, h']
      have hic : i < cur.size := by omega
      simp [Array.setIfInBounds, hic]
    · rw [Array.toList_set, List.length_set, List.take_set, ht]

theorem Lst.reads {w : World} {B : Nat} {t : TypeId} {v : Value} {xs : List Value} (h : Lst w B t v xs) (C : Nat) (hB : w.heap.size ≤ C) (d : Value) : Sl w C v xs.length fun i => xs.getD i d := by
  rcases h.2 with ⟨rfl, h0⟩ | ⟨g, cap, cur, rfl, hbg, hh, hnc, hc, hs, ht⟩
  · exact ⟨none, 0, 0, 0, by rw [h0], by rw [h0]; exact Nat.zero_le _, fun h => by omega, fun i hi => by omega⟩
  · obtain ⟨g', cap', hv, hl, hcell, -⟩ | hz : (∃ g' cap', Value.slice (some ⟨g, 0, none⟩) xs.length cap = .slice (some ⟨g', 0, none⟩) xs.length cap' ∧ g' < w.heap.size ∧ (∀ i (hi : i < xs.length), w.cell? ⟨g', i, none⟩ = some xs[i]) ∧ ∀ i, w.frozen? ⟨g', i, none⟩ = false) ∨ ¬ 0 < xs.length := by
      by_cases hp : 0 < xs.length
      · exact .inl (Lst.view h hp)
      · exact .inr hp
    · cases hv
      exact ⟨_, g, 0, cap, rfl, by omega, fun _ => ⟨rfl, by omega⟩, fun i hi => by rw [Nat.zero_add, hcell i hi]; simp [List.getD, hi]⟩
    · exact ⟨_, g, 0, cap, rfl, by omega, fun h => absurd h hz, fun i hi => by omega⟩

/-- One element more. -/
structure Pushed (w w' : World) (B : Nat) (t : TypeId) (v v' : Value) (xs : List Value) (u : Value) : Prop where
  lst : Lst w' B t v' (xs ++ [u])
  grow : w.grownBy w' v.ownBlock
  at_ : v'.ownBlock = v.ownBlock ∨ ∃ g, v'.ownBlock = some g ∧ w.heap.size ≤ g

theorem grown_trans_alloc {w w' : World} {o : Obj} {row : Option Nat} (h : (w.alloc o).grownBy w' row) : w.grownBy w' row :=
  ⟨h.os, h.tape, h.output, by have := h.size; simp at this; omega, fun k hk hne => (h.block k (by simp; omega) hne).trans (Below.heap_alloc _ _ _ hk)⟩

/-- The law for appending one element, which has just been laid in a block of its own. -/
theorem wpList_push {P : Program} {w : World} {ops : Array Oper} {rest : List Oper} {o : Oper} {a : Act} {Q : Exit → Act → World → Prop} (hgd : o.guard = none) (s x : Operand) (t : TypeId)
    (ho : o.op = .call { callee := .builtin .append, args := #[s, x], argTypes := #[t, t] })
    (e : TypeId) (z : Value) (bytes : Nat) (ht : P.underlying t = some (.slice e)) (hinfo : (P.info? e).map (fun i => (i.zero, i.size, i.bytes)) = some (some z, 1, bytes)) (hzs : z.cells.size = 1) (hby : bytes ≤ 24)
    (B : Nat) (v : Value) (xs : List Value) (u : Value) (hown : Lst w B e v xs) (hB : B ≤ w.heap.size) (h1 : u.oneCell' = true) (hlen : xs.length ≤ 100000000) (hs : a.eval s = v) (N : Nat) (hx : a.eval x = .slice (some ⟨N, 0, none⟩) 1 1) (hN : w.heap.size = N)
    (h : ∀ v' w', Pushed w w' B e v v' xs u → wpList P ops Q rest (a.put o.dst v') w') : wpList P ops Q (o :: rest) a (w.alloc (.cells #[u] e)) := by
  obtain ⟨i, hi, hz, hsize, hbytes⟩ := info_parts hinfo
  subst hN
  refine wpList_append_own_at (P := P) _ hgd s x t ho B e i z 1 bytes ht hi hz hsize hbytes hzs (by decide) v xs.length xs hs (Lst.alloc hown _) ⟨w.heap.size, 0, none⟩ 1 1 [u] hx rfl ?_ ?_ (by unfold maxLen; omega) ?_ (by simp; omega) ?_
  · intro j u' hj
    cases j with
    | zero =>
      simp at hj; subst hj
      exact World.cell?_alloc_mark ..
    | succ j => simp at hj
  · intro u' hu
    rw [List.mem_singleton] at hu
    rw [hu]; exact h1
  · have : (xs.length + 1) * bytes ≤ 100000001 * 24 := Nat.mul_le_mul (by omega) hby
    omega
  · intro v' w' hown' hg _ hat
    refine h v' w' ⟨?_, grown_trans_alloc hg, ?_⟩
    · unfold Lst
      rw [List.length_append]
      exact hown'
    · rcases hat with e | e
      · exact .inl e
      · exact .inr ⟨_, e, by simp⟩

/-- The same, at a step of a region that draws its order. -/
theorem step_push {P : Program} {w : World} {ops : Array Oper} {o : Oper} {a : Act} {K : Act → World → Prop} {Q : Exit → Act → World → Prop} {E : Prop} (hgd : o.guard = none) (s x : Operand) (t : TypeId)
    (ho : o.op = .call { callee := .builtin .append, args := #[s, x], argTypes := #[t, t] })
    (e : TypeId) (z : Value) (bytes : Nat) (ht : P.underlying t = some (.slice e)) (hinfo : (P.info? e).map (fun i => (i.zero, i.size, i.bytes)) = some (some z, 1, bytes)) (hzs : z.cells.size = 1) (hby : bytes ≤ 24)
    (B : Nat) (v : Value) (xs : List Value) (u : Value) (hown : Lst w B e v xs) (hB : B ≤ w.heap.size) (h1 : u.oneCell' = true) (hlen : xs.length ≤ 100000000) (hs : a.eval s = v) (N : Nat) (hx : a.eval x = .slice (some ⟨N, 0, none⟩) 1 1) (hN : w.heap.size = N)
    (h : ∀ v' w', Pushed w w' B e v v' xs u → K (a.put o.dst v') w') :
    if Region.wanted o (yielded ops a.tmps) = true then Oper.wp P o a (w.alloc (.cells #[u] e)) K Q else E := by
  obtain ⟨i, hi, hz, hsize, hbytes⟩ := info_parts hinfo
  subst hN
  refine step_append_lies (P := P) (w := w.alloc (.cells #[u] e)) hgd s x t ho B e i z 1 bytes ht hi hz hsize hbytes hzs (by decide) v xs.length xs hs (Lst.alloc hown _) ⟨w.heap.size, 0, none⟩ 1 1 [u] hx rfl ?_ ?_ (by decide) (by unfold maxLen; omega) ?_ (by simp; omega) _ rfl ?_
  · intro j u' hj
    cases j with
    | zero =>
      simp at hj; subst hj
      exact World.cell?_alloc_mark ..
    | succ j => simp at hj
  · intro u' hu
    rw [List.mem_singleton] at hu
    rw [hu]; exact h1
  · have : (xs.length + 1) * bytes ≤ 100000001 * 24 := Nat.mul_le_mul (by omega) hby
    omega
  · intro g cap w' hown' hg hat hgl
    refine h _ w' ⟨?_, grown_trans_alloc hg, ?_⟩
    · unfold Lst
      rw [List.length_append]
      exact hown'
    · rcases hat with e | e
      · exact .inl (by rw [e]; rfl)
      · exact .inr ⟨g, rfl, by rw [e]; simp⟩

/-- A list in a block that has just been laid. -/
theorem Lst.made (w : World) (B : Nat) (t : TypeId) (z : Value) (n : Nat) (hB : B ≤ w.heap.size) (hn : n ≤ maxLen) :
    Lst (w.alloc (.cells (madeCells #[z] n) t)) B t (.slice (some ⟨w.heap.size, 0, none⟩) n n) (List.replicate n z) := by
  have h := (World.rowIs_made w z n t)
  obtain ⟨c, hc, hs, hf⟩ := h
  refine ⟨by simp, .inr ⟨w.heap.size, n, c, by simp, hB, hc, by simp, hn, by simpa using hs, ?_⟩⟩
  rw [List.length_replicate, Nat.mul_one]
  apply List.ext_getElem
  · simp [hs]
  · intro i h1 h2
    simp at h1 h2
    have := hf i (by omega)
    simp [Array.getElem?_eq_getElem (show i < c.size by omega)] at this
    simpa using this
theorem Lst.empty (w : World) (B : Nat) (t : TypeId) (hB : B ≤ w.heap.size) : Lst (w.alloc (.cells #[] t)) B t (.slice (some ⟨w.heap.size, 0, none⟩) 0 0) [] :=
  ⟨by simp, .inr ⟨w.heap.size, 0, #[], rfl, hB, heap_alloc_new w _, by simp, by unfold maxLen; omega, by simp, by simp⟩⟩
theorem Lst.one (w : World) (B : Nat) (t : TypeId) (u : Value) (hB : B ≤ w.heap.size) :
    Lst (w.alloc (.cells #[u] t)) B t (.slice (some ⟨w.heap.size, 0, none⟩) 1 1) [u] :=
  ⟨by simp, .inr ⟨w.heap.size, 1, #[u], rfl, hB, heap_alloc_new w _, by simp, by unfold maxLen; omega, by simp, by simp⟩⟩

theorem block_apart {w : World} {B : Nat} {t t' : TypeId} {v : Value} {xs : List Value} {k : Nat} {c : Array Value} {r : Nat × Nat} (h : Lst w B t v xs) (hb : w.heap[k]? = some (.cells c t' r)) (ht : t ≠ t') : v.ownBlock ≠ some k := by
  intro e
  rcases h.2 with ⟨rfl, -⟩ | ⟨g, cap, cur, rfl, hbg, hh, -⟩
  · cases e
  · cases e
    rw [hh] at hb
    cases hb
    exact ht rfl
theorem Lst.apart {w : World} {B B' : Nat} {t t' : TypeId} {v v' : Value} {xs xs' : List Value} (h : Lst w B t v xs) (h' : Lst w B' t' v' xs') (ht : t ≠ t') (k : Nat) (e : v.ownBlock = some k) : v'.ownBlock ≠ some k := by
  rcases h.2 with ⟨rfl, -⟩ | ⟨g, cap, cur, rfl, hbg, hh, -⟩
  · cases e
  · cases e
    exact block_apart h' hh (fun e => ht e.symm)

/-- A table of numbers. -/
def tv (n : Nat) (T : Nat → Int) : List Value := (List.range n).map fun i => Value.int .i64 (T i)
theorem tv_length (n : Nat) (T : Nat → Int) : (tv n T).length = n := by simp [tv]
theorem tv_get (n : Nat) (T : Nat → Int) {i : Nat} (h : i < (tv n T).length) : (tv n T)[i] = .int .i64 (T i) := by simp [tv]
theorem tv_set (n : Nat) (T : Nat → Int) (k : Nat) (x : Int) : (tv n T).set k (.int .i64 x) = tv n fun i => if i = k then x else T i := by
  apply List.ext_getElem
  · simp [tv]
  · intro i h1 h2
    rw [List.getElem_set, tv_get _ _ h2]
    by_cases e : k = i
    · subst e; simp
    · rw [if_neg e, if_neg (fun h : i = k => e h.symm), tv_get n T (by rw [List.length_set] at h1; exact h1)]
theorem tv_congr {n : Nat} {T S : Nat → Int} (h : ∀ i, i < n → T i = S i) : tv n T = tv n S := by
  unfold tv
  exact List.map_congr_left fun i hi => by rw [h i (List.mem_range.1 hi)]
theorem tv_rep (n : Nat) (x : Int) : List.replicate n (Value.int .i64 x) = tv n fun _ => x := by
  apply List.ext_getElem
  · simp [tv]
  · intro i h1 h2; simp [tv]
/-- A list of numbers. -/
def iv (l : List Nat) : List Value := l.map fun s : Nat => Value.int .i64 (s : Int)
theorem iv_length (l : List Nat) : (iv l).length = l.length := by simp [iv]
theorem iv_get (l : List Nat) {i : Nat} (h : i < (iv l).length) : (iv l)[i] = .int .i64 ((l.getD i 0 : Nat) : Int) := by rw [iv_length] at h; simp [iv, List.getD, h]
theorem getD_mem (l : List Nat) {i : Nat} (h : i < l.length) : l.getD i 0 ∈ l := by simp [List.getD, h]
theorem iv_push (l : List Nat) (x : Nat) : iv l ++ [Value.int .i64 (x : Int)] = iv (l ++ [x]) := by simp [iv]

/-- Lists of the function's own of elements of type t, in blocks of their own. -/
structure Own (w : World) (B : Nat) (t : TypeId) (items : List (Value × List Value)) : Prop where
  lst : ∀ p ∈ items, Lst w B t p.1 p.2
  apart : items.Pairwise fun p q => ∀ k, p.1.ownBlock = some k → q.1.ownBlock ≠ some k

theorem Own.nil (w : World) (B : Nat) (t : TypeId) : Own w B t [] := ⟨(fun _ h => by cases h), List.Pairwise.nil⟩
theorem Own.of_block {w w' : World} {B : Nat} {t : TypeId} {items : List (Value × List Value)} (h : Own w B t items) (hb : ∀ p ∈ items, ∀ k, p.1.ownBlock = some k → w'.heap[k]? = w.heap[k]?) : Own w' B t items :=
  ⟨fun p hp => (h.lst p hp).of_block (hb p hp), h.apart⟩
theorem Own.below {w w' : World} {B : Nat} {t : TypeId} {items : List (Value × List Value)} (h : Own w B t items) (hb : Below w.heap.size w w') : Own w' B t items :=
  ⟨fun p hp => (h.lst p hp).below hb, h.apart⟩
theorem Own.drew {w : World} {B : Nat} {t : TypeId} {items : List (Value × List Value)} (h : Own w B t items) : Own w.drew B t items := ⟨h.lst, h.apart⟩
theorem Own.drewN {w : World} {B : Nat} {t : TypeId} {items : List (Value × List Value)} (h : Own w B t items) (m : Nat) : Own (w.drewN m) B t items := ⟨h.lst, h.apart⟩
theorem Own.alloc {w : World} {B : Nat} {t : TypeId} {items : List (Value × List Value)} (h : Own w B t items) (o : Obj) : Own (w.alloc o) B t items := h.below ((Below.refl _ _).alloc (Nat.le_refl _) _)
theorem Own.grown {w w' : World} {B : Nat} {t : TypeId} {items : List (Value × List Value)} {row : Option Nat} (h : Own w B t items) (hg : w.grownBy w' row) (hr : ∀ k, row = some k → ∀ p ∈ items, p.1.ownBlock ≠ some k) : Own w' B t items :=
  ⟨fun p hp => (h.lst p hp).grown hg (fun k hk => hr k hk p hp), h.apart⟩
theorem Own.setOther {w : World} {B : Nat} {t t' : TypeId} {items : List (Value × List Value)} (h : Own w B t items) {a : Addr} {c : Array Value} {r : Nat × Nat} (hb : w.heap[a.block]? = some (.cells c t' r)) (ht : t ≠ t') (u : Value) : Own (w.setCell a u) B t items :=
  ⟨fun p hp => (h.lst p hp).setOther (block_apart (h.lst p hp) hb ht) u, h.apart⟩
theorem Own.add {w : World} {B : Nat} {t : TypeId} {items : List (Value × List Value)} (h : Own w B t items) {v : Value} {xs : List Value} (hl : Lst w B t v xs) (ha : ∀ p ∈ items, ∀ k, v.ownBlock = some k → p.1.ownBlock ≠ some k) : Own w B t ((v, xs) :: items) :=
  ⟨(fun p hp => by rcases List.mem_cons.1 hp with rfl | hp; exact hl; exact h.lst p hp), List.pairwise_cons.2 ⟨fun p hp => ha p hp, h.apart⟩⟩
/-- A list that is not in memory yet, or in a block behind all that there was. -/
theorem Own.addNew {w w' : World} {B : Nat} {t : TypeId} {items : List (Value × List Value)} (h : Own w B t items) (hb : Below w.heap.size w w') {v : Value} {xs : List Value} (hl : Lst w' B t v xs) (hn : ∀ k, v.ownBlock = some k → w.heap.size ≤ k) : Own w' B t ((v, xs) :: items) :=
  (h.below hb).add hl fun p hp k hk e => by have := (h.lst p hp).lt e; have := hn k hk; omega
theorem Own.drop1 {w : World} {B : Nat} {t : TypeId} {p : Value × List Value} {items : List (Value × List Value)} (h : Own w B t (p :: items)) : Own w B t items :=
  ⟨fun q hq => h.lst q (List.mem_cons_of_mem _ hq), (List.pairwise_cons.1 h.apart).2⟩

theorem pairwise_mid {α : Type} {R : α → α → Prop} (hs : ∀ a b, R a b → R b a) {l1 l2 : List α} {x y : α} (h : (l1 ++ x :: l2).Pairwise R) (hx : ∀ z ∈ l1 ++ l2, R x z → R y z) : (l1 ++ y :: l2).Pairwise R := by
  rw [List.pairwise_append, List.pairwise_cons] at h ⊢
  obtain ⟨h1, ⟨h2, h3⟩, h4⟩ := h
  refine ⟨h1, ⟨fun z hz => hx z (List.mem_append_right _ hz) (h2 z hz), h3⟩, fun a ha b hb => ?_⟩
  rcases List.mem_cons.1 hb with rfl | hb
  · exact hs _ _ (hx a (List.mem_append_left _ ha) (hs _ _ (h4 a ha _ List.mem_cons_self)))
  · exact h4 a ha b (List.mem_cons_of_mem _ hb)
theorem own_symm {p q : Value × List Value} (h : ∀ k, p.1.ownBlock = some k → q.1.ownBlock ≠ some k) : ∀ k, q.1.ownBlock = some k → p.1.ownBlock ≠ some k := fun k hk e => h k e hk
theorem pairwise_from {α : Type} {R : α → α → Prop} (hs : ∀ a b, R a b → R b a) {l1 l2 : List α} {x : α} (h : (l1 ++ x :: l2).Pairwise R) : ∀ z ∈ l1 ++ l2, R x z := by
  rw [List.pairwise_append, List.pairwise_cons] at h
  obtain ⟨h1, ⟨h2, h3⟩, h4⟩ := h
  intro z hz
  rcases List.mem_append.1 hz with hz | hz
  · exact hs _ _ (h4 z hz _ List.mem_cons_self)
  · exact h2 z hz

theorem Own.push {w w' : World} {B : Nat} {t : TypeId} (l1 l2 : List (Value × List Value)) {v v' : Value} {xs : List Value} {u : Value} (h : Own w B t (l1 ++ (v, xs) :: l2)) (hp : Pushed w w' B t v v' xs u) : Own w' B t (l1 ++ (v', xs ++ [u]) :: l2) := by
  have hf := pairwise_from (fun a b => own_symm) h.apart
  refine ⟨fun p hm => ?_, pairwise_mid (fun a b => own_symm) h.apart fun z hz hxz k hk e => ?_⟩
  · have hm' : p ∈ l1 ++ l2 ∨ p = (v', xs ++ [u]) := by
      rcases List.mem_append.1 hm with hm | hm
      · exact .inl (List.mem_append_left _ hm)
      · rcases List.mem_cons.1 hm with rfl | hm
        · exact .inr rfl
        · exact .inl (List.mem_append_right _ hm)
    rcases hm' with hm' | rfl
    · have hmi : p ∈ l1 ++ (v, xs) :: l2 := by
        rcases List.mem_append.1 hm' with hm' | hm'
        · exact List.mem_append_left _ hm'
        · exact List.mem_append_right _ (List.mem_cons_of_mem _ hm')
      exact (h.lst p hmi).grown hp.grow fun k hk => hf p hm' k hk
    · exact hp.lst
  · have hmi : z ∈ l1 ++ (v, xs) :: l2 := by
      rcases List.mem_append.1 hz with hz | hz
      · exact List.mem_append_left _ hz
      · exact List.mem_append_right _ (List.mem_cons_of_mem _ hz)
    rcases hp.at_ with e' | ⟨g, e', hg⟩
    · exact hf z hz k (by rw [← e']; exact hk) e
    · have h1 := (h.lst z hmi).lt e
      rw [e'] at hk
      cases hk
      omega
theorem Own.set {w : World} {B : Nat} {t : TypeId} (l1 l2 : List (Value × List Value)) {g n cap : Nat} {xs : List Value} (h : Own w B t (l1 ++ (.slice (some ⟨g, 0, none⟩) n cap, xs) :: l2)) {i : Nat} (hi : i < xs.length) (u : Value) :
    Own (w.setCell ⟨g, i, none⟩ u) B t (l1 ++ (.slice (some ⟨g, 0, none⟩) n cap, xs.set i u) :: l2) := by
  have hf := pairwise_from (fun a b => own_symm) h.apart
  refine ⟨fun p hm => ?_, pairwise_mid (fun a b => own_symm) h.apart fun z hz hxz => hxz⟩
  have hm' : p ∈ l1 ++ l2 ∨ p = (.slice (some ⟨g, 0, none⟩) n cap, xs.set i u) := by
    rcases List.mem_append.1 hm with hm | hm
    · exact .inl (List.mem_append_left _ hm)
    · rcases List.mem_cons.1 hm with rfl | hm
      · exact .inr rfl
      · exact .inl (List.mem_append_right _ hm)
  rcases hm' with hm' | rfl
  · have hmi : p ∈ l1 ++ (Value.slice (some ⟨g, 0, none⟩) n cap, xs) :: l2 := by
      rcases List.mem_append.1 hm' with hm' | hm'
      · exact List.mem_append_left _ hm'
      · exact List.mem_append_right _ (List.mem_cons_of_mem _ hm')
    exact (h.lst p hmi).setOther (hf p hm' g rfl) u
  · exact (h.lst _ (List.mem_append_right _ List.mem_cons_self)).set hi u
theorem Own.get {w : World} {B : Nat} {t : TypeId} (l1 l2 : List (Value × List Value)) {v : Value} {xs : List Value} (h : Own w B t (l1 ++ (v, xs) :: l2)) : Lst w B t v xs := h.lst (v, xs) (List.mem_append_right _ List.mem_cons_self)
end Go.Proofs.YtaimealknkhfbaaDoor.Heap
/- Relations that a law marks and looks at.
   Conditions: stated at each theorem. -/
namespace Go.Proofs.YtaimealknkhfbaaDoor.MarkRel
set_option linter.unusedVariables false
set_option linter.unusedSimpArgs false
open Go.RowKit Mem Copy Rel MarkRow MarkBool MarkRows Heap

/-- A relation's lists in memory of their own. -/
structure RelF (w : World) (lo : Nat) (va vn : Value) (nb : Nat) (fb : Nat → Value) (N : Nat) (V : Nat → Value) (n : Nat → Nat) (f : Nat → Nat → Value) : Prop where
  acc : Row w lo 4 va nb fb
  nxt : RowsF w lo vn N V n f
theorem RelF.below {w w' : World} {lo : Nat} {va vn : Value} {nb : Nat} {fb : Nat → Value} {N : Nat} {V : Nat → Value} {n : Nat → Nat} {f : Nat → Nat → Value} (h : RelF w lo va vn nb fb N V n f) (hb : Below w.heap.size w w') : RelF w' lo va vn nb fb N V n f := ⟨h.acc.below hb, h.nxt.below hb⟩
theorem RelF.drewN {w : World} {lo : Nat} {va vn : Value} {nb : Nat} {fb : Nat → Value} {N : Nat} {V : Nat → Value} {n : Nat → Nat} {f : Nat → Nat → Value} (h : RelF w lo va vn nb fb N V n f) (m : Nat) : RelF (w.drewN m) lo va vn nb fb N V n f := ⟨h.acc.drewN m, h.nxt.drewN m⟩

/-- Their blocks. -/
def InRel (va : Value) (nb N : Nat) (V : Nat → Value) (n : Nat → Nat) (b : Nat) : Prop := (0 < nb ∧ va.ownBlock = some b) ∨ InRows N V n b

theorem RowsF.other {w w' : World} {lo : Nat} {vn : Value} {N : Nat} {V : Nat → Value} {n : Nat → Nat} {f : Nat → Nat → Value} {g m t : Nat} {F : Nat → Value} (h : RowsF w lo vn N V n f) (hg : w.grownBy w' (some g)) (hrow : w.rowIs g t m F) (h1 : t ≠ 2) (h2 : t ≠ 52) : RowsF w' lo vn N V n f := by
  refine ⟨Row.grownOff h.head hg fun hN k hk e => ?_, fun i hi => Row.grownOff (h.rows i hi) hg fun hn k hk e => ?_, h.apart⟩
  · obtain ⟨b', m', F', hb', -, hrow'⟩ := Row.owned h.head hN
    rw [hb'] at hk; cases hk; cases e
    exact rowIs_apart hrow hrow' h2 rfl
  · obtain ⟨b', m', F', hb', -, hrow'⟩ := Row.owned (h.rows i hi) hn
    rw [hb'] at hk; cases hk; cases e
    exact rowIs_apart hrow hrow' h1 rfl
theorem not_in {w : World} {lo lo' : Nat} {vn va : Value} {N nb : Nat} {V : Nat → Value} {n : Nat → Nat} {f : Nat → Nat → Value} {t : TypeId} {fb : Nat → Value} (h : RowsF w lo vn N V n f) (ha : Row w lo' t va nb fb) (ht : t ≠ 2) (hn : 0 < nb) (k : Nat) (hk : va.ownBlock = some k) : ¬ InRows N V n k := by
  rintro ⟨i, hi, h0, he⟩
  obtain ⟨b1, m1, F1, e1, -, r1⟩ := Row.owned ha hn
  obtain ⟨b2, m2, F2, e2, -, r2⟩ := Row.owned (h.rows i hi) h0
  rw [hk] at e1; cases e1
  rw [he] at e2; cases e2
  exact rowIs_apart r1 r2 ht rfl

theorem Only.alloc {S : Nat → Prop} (w : World) (o : Obj) : Only S w (w.alloc o) := ⟨rfl, rfl, rfl, by simp, fun b hb _ => Below.heap_alloc _ _ _ hb⟩
theorem not_size {w : World} {lo : Nat} {va vn : Value} {nb : Nat} {fb : Nat → Value} {N : Nat} {V : Nat → Value} {n : Nat → Nat} {f : Nat → Nat → Value} (h : RelF w lo va vn nb fb N V n f) : ¬ InRel va nb N V n w.heap.size := by
  rintro (⟨h0, he⟩ | ⟨i, hi, h0, he⟩)
  · obtain ⟨b, m, F, e, -, r⟩ := Row.owned h.acc h0
    rw [he] at e; cases e
    exact Nat.lt_irrefl _ r.lt
  · obtain ⟨b, m, F, e, -, r⟩ := Row.owned (h.nxt.rows i hi) h0
    rw [he] at e; cases e
    exact Nat.lt_irrefl _ r.lt

set_option maxHeartbeats 2000000 in
theorem markRel (t s : Int) (va vn : Value) (nb : Nat) (fb : Nat → Value) (N : Nat) (V : Nat → Value) (n : Nat → Nat) (f : Nat → Nat → Value) (k : Nat) (lo : Nat) (w : World) (h : RelF w lo va vn nb fb N V n f) (hlo : lo ≤ w.heap.size) (hN : N ≤ 1048576) (hk0 : k ≤ 1048577) (hnb : nb ≤ 1048576) (hk : 0 < N → k + nb + sumTo n N ≤ 1048576) :
    Calls Tryd.prog 9 #[.agg #[.int .i64 t, .int .i64 s, va, vn], .int .i64 k] w fun e w' => e = .returned (.int .i64 ((k + nb + sumTo n N : Nat) : Int)) ∧ RelF w' lo va vn nb (fun i => .bool (markB (k + i))) N V n (fun i c => .int .i64 ((k + nb + sumTo n i + c : Nat) : Int)) ∧ Only (InRel va nb N V n) w w' := by
  have HSZ := Lib.hid (not_size h)
  obtain ⟨W, hW⟩ : ∃ W, W = w.alloc (.cells #[.int .i64 t, .int .i64 s, va, vn] 27) := ⟨_, rfl⟩
  have HW := Lib.hid (show Only (InRel va nb N V n) w W by rw [hW]; exact Only.alloc _ _)
  have HF := Lib.hid (show RelF W lo va vn nb fb N V n f by rw [hW]; exact h.below ((Below.refl _ _).alloc (Nat.le_refl _) _))
  have HBX := Lib.hid (show W.heap[w.heap.size]? = some (.cells #[.int .i64 t, .int .i64 s, va, vn] 27 (0, 0)) by rw [hW]; exact heap_alloc_new _ _)
  have HM := Lib.hid (markBools va nb fb k lo W HF.out.acc (by omega) (by omega))
  obtain ⟨aa, ca, rfl, -⟩ := h.acc
  obtain ⟨ab, cb, rfl, -⟩ := h.nxt.head
  clear h
  go_enter Tryd.func9, Tryd.ntmps9
  go_wp2_with fail
  rw [← hW]
  clear hW
  refine HM.out.mono ?_
  rintro e w1 ⟨rfl, hr, hg⟩
  have H1 := Lib.hid (show RowsF w1 lo (.slice ab N cb) N V n f ∧ Only (InRel (.slice aa nb ca) nb N V n) W w1 from by
    rcases hg with ⟨h0, hg⟩ | rfl
    · obtain ⟨b, m, F, hb, -, hrow⟩ := Row.owned HF.out.acc h0
      rw [hb] at hg
      exact ⟨RowsF.other HF.out.nxt hg hrow (by decide) (by decide), Only.of_grown hg fun b' e => by cases e; exact .inl ⟨h0, hb⟩⟩
    · exact ⟨HF.out.nxt, Only.refl _ _⟩)
  have hbx : w1.heap[w.heap.size]? = some (.cells #[.int .i64 t, .int .i64 s, .slice aa nb ca, .slice ab N cb] 27 (0, 0)) := (H1.out.2.block _ (lt_of_block HBX.out) HSZ.out).trans HBX.out
  have q3 : w1.cell? ⟨w.heap.size, 3, none⟩ = some (.slice ab N cb) := by simp [World.cell?, hbx]
  have hlb := lt_of_block hbx
  clear hbx
  have H2 := Lib.hid hr
  have HS := Lib.hid (show lo ≤ w1.heap.size from Nat.le_trans hlo (Nat.le_trans HW.out.size H1.out.2.size))
  clear hr hg HM
  have HR := Lib.hid (markRows (.slice ab N cb) N V n f (k + nb) lo w1 H1.out.1 HS.out hN (fun h => by have := hk h; omega) (by omega))
  go_wp2_with fail
  refine HR.out.mono ?_
  rintro e w2 ⟨rfl, hr, ho⟩
  have H3 := Lib.hid hr
  have H4 := Lib.hid ho
  clear hr ho HR
  go_wp2_with fail
  go_ret
  exact ⟨rfl, ⟨Row.only H2.out H4.out fun h0 k' hk' => not_in H1.out.1 H2.out (by decide) h0 k' hk', H3.out⟩, HW.out.trans (H1.out.2.trans (H4.out.mono fun b hb => .inr hb))⟩

set_option maxHeartbeats 2000000 in
theorem heldRel (t s : Int) (va vn : Value) (nb : Nat) (N : Nat) (V : Nat → Value) (n : Nat → Nat) (k : Nat) (lo : Nat) (w : World) (h : RelF w lo va vn nb (fun i => .bool (markB (k + i))) N V n (fun i c => .int .i64 ((k + nb + sumTo n i + c : Nat) : Int))) (hN : N ≤ 1048576) (hk0 : k ≤ 1048576) (hnb : nb ≤ 1048576) (hk : 0 < N → k + nb + sumTo n N ≤ 1048576) :
    Calls Tryd.prog 10 #[.agg #[.int .i64 t, .int .i64 s, va, vn], .int .i64 k] w fun e w' => e = .returned (.int .i64 ((k + nb + sumTo n N : Nat) : Int)) ∧ Below w.heap.size w w' := by
  have HH := Lib.hid (show RelF (w.alloc (.cells #[.int .i64 t, .int .i64 s, va, vn] 27)) lo va vn nb (fun i => .bool (markB (k + i))) N V n (fun i c => .int .i64 ((k + nb + sumTo n i + c : Nat) : Int)) from h.below ((Below.refl _ _).alloc (Nat.le_refl _) _))
  have HM := Lib.hid (heldBools va nb k _ _ (HH.out.acc.reads (by unfold maxLen; omega)) (by omega) (by omega))
  have HR := Lib.hid (heldRows vn N V n (k + nb) lo _ HH.out.nxt hN (fun h => by have := hk h; omega) (by omega))
  obtain ⟨aa, ca, rfl, -⟩ := h.acc
  obtain ⟨ab, cb, rfl, -⟩ := h.nxt.head
  clear h
  go_enter Tryd.func10, Tryd.ntmps10
  go_wp2_with fail
  refine HM.out.mono ?_
  rintro e w1 ⟨rfl, rfl⟩
  go_wp2_with fail
  refine HR.out.mono ?_
  rintro e w1 ⟨rfl, rfl⟩
  go_wp2_with fail
  go_ret
  exact ⟨rfl, (Below.refl _ _).alloc (Nat.le_refl _) _⟩
end Go.Proofs.YtaimealknkhfbaaDoor.MarkRel
