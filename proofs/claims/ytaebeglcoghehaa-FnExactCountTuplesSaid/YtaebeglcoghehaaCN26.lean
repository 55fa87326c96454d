
/- What the model's function that sets the truth values of pairs hands back.
   Conditions: stated at each theorem. -/
import Derived.Test.YtaebeglcoghehaaCN25
import Derived.Test.YtaebeglcoghehaaCN5
import Derived.Deep.QuietTactic
import Derived.BigQuiet
namespace Go.Proofs.Ytaebeglcoghehaa.PairSB
set_option linter.unusedVariables false
set_option linter.unusedSimpArgs false
set_option maxRecDepth 100000
open Go.RowKit Mem Copy Rel Valid Heap Push Columns Bld TidyMath TidyAuto TidyRight SpecFiner SpecRight PairMath DifferB

/-- Truth values by a rule. -/
def bvF (n : Nat) (f : Nat → Bool) : List Value := (List.range n).map fun i => Value.bool (f i)
theorem bvF_length (n : Nat) (f : Nat → Bool) : (bvF n f).length = n := by simp [bvF]
theorem bvF_set (n : Nat) (f : Nat → Bool) (k : Nat) (x : Bool) : (bvF n f).set k (.bool x) = bvF n fun i => if i = k then x else f i := by
  apply List.ext_getElem
  · simp [bvF]
  · intro i h1 h2
    simp [bvF, List.getElem_set]
    by_cases e : k = i
    · simp [e]
    · simp [e, Ne.symm e]
theorem bvF_congr {n : Nat} {f g : Nat → Bool} (h : ∀ i, i < n → f i = g i) : bvF n f = bvF n g :=
  List.map_congr_left fun i hi => by rw [h i (List.mem_range.1 hi)]
/-- The copy whose truth values are turned one by one. -/
structure Fl (w : World) (B X : Nat) (k st : Int) (g n c : Nat) (vn : Value) (f : Nat → Bool) (nx : List (List Int)) : Prop where
  acc : Lst w B 4 (.slice (some ⟨g, 0, none⟩) n c) (bvF n f)
  rows : Built w B (.slice none 0 0) vn [] nx
  at_ : w.heap[X]? = some (.cells #[.int .i64 k, .int .i64 st, .slice (some ⟨g, 0, none⟩) n c, vn] 29 (0, 0))
section
variable {w w' : World} {B X : Nat} {k st : Int} {g n c : Nat} {vn : Value} {f : Nat → Bool} {nx : List (List Int)}
theorem Fl.lt (h : Fl w B X k st g n c vn f nx) : X < w.heap.size := lt_of_block h.at_
theorem Fl.ne (h : Fl w B X k st g n c vn f nx) : g ≠ X := fun e => block_apart h.acc h.at_ (by decide) (by show some g = some X; rw [e])
theorem Fl.set (h : Fl w B X k st g n c vn f nx) {i : Nat} (hi : i < n) (b : Bool) : Fl (w.setCell ⟨g, i, none⟩ (.bool b)) B X k st g n c vn (fun q => if q = i then b else f q) nx := by
  refine ⟨?_, ?_, ?_⟩
  · have h1 := h.acc.set (i := i) (by rw [bvF_length]; exact hi) (.bool b)
    rw [bvF_set] at h1
    exact h1
  · obtain ⟨items, h1, h2, h3⟩ := h.rows.rows
    exact ⟨Lst.nil _ _ _, items, ⟨fun p hp => (h1.lst p hp).setOther (h.acc.apart (h1.lst p hp) (by decide) g rfl) _, h1.apart⟩, h2.setOther (h.acc.apart h2 (by decide) g rfl) _, h3⟩
  · rw [Below.heap_setCell _ _ _ _ (fun e => h.ne (show g = X from e.symm))]; exact h.at_
theorem Fl.congr {f' : Nat → Bool} (h : Fl w B X k st g n c vn f nx) (e : ∀ i, i < n → f i = f' i) : Fl w B X k st g n c vn f' nx :=
  ⟨by rw [← bvF_congr e]; exact h.acc, h.rows, h.at_⟩
theorem Fl.drew (h : Fl w B X k st g n c vn f nx) : Fl w.drew B X k st g n c vn f nx := ⟨h.acc, h.rows.drewN 1, h.at_⟩
end


theorem pair_bools (t : Bool → Bool → Bool) (l m : L) : (pairL t l m).acc.map Value.bool = bvF (l.acc.length * m.acc.length) (fun x => t (l.acc.getD (x / m.acc.length) false) (m.acc.getD (x % m.acc.length) false)) := by
  unfold pairL bvF
  rw [List.map_map]
  rfl

set_option maxHeartbeats 8000000 in
theorem pairsWithout (l m : L) (hl : l.Ok) (hm : m.Ok) (hk : l.k = m.k) (bp bq : Nat) (w : World) (B : Nat) (h : RelPtr w B bp (relOf l)) (h' : RelPtr w B bq (relOf m)) (hB : B ≤ w.heap.size) (hbp : bp < w.heap.size) (hbq : bq < w.heap.size) (hnm : l.acc.length * m.acc.length ≤ 2000000) :
    Calls Try.prog 118 #[.pointer (some ⟨bp, 0, none⟩), .pointer (some ⟨bq, 0, none⟩), .int .i64 3] w fun e w' => ∃ va vn, e = .returned (.agg #[.int .i64 (pairL (fun a b => a && !b) l m).k, .int .i64 (pairL (fun a b => a && !b) l m).start, va, vn]) ∧ Built w' w.heap.size va vn (pairL (fun a b => a && !b) l m).acc (relOf (pairL (fun a b => a && !b) l m)).next ∧ Below w.heap.size w w' := by
  have hl0 : 0 < l.acc.length := Nat.lt_of_le_of_lt (Nat.zero_le _) hl.st
  have hm0 : 0 < m.acc.length := Nat.lt_of_le_of_lt (Nat.zero_le _) hm.st
  obtain ⟨hs1, hs2⟩ := sidesB hl0 hm0 hnm
  have HDF := Lib.hid (DifferB.differ l m hl hm hk bp bq (w.alloc (.cells #[Value.int .i64 0, .int .i64 0, .slice none 0 0, .slice none 0 0] 29)) B (h.below ((Below.refl _ _).alloc (Nat.le_refl _) _) hB hbp) (h'.below ((Below.refl _ _).alloc (Nat.le_refl _) _) hB hbq) (by rw [size_alloc']; omega) (by rw [size_alloc']; omega) (by rw [size_alloc']; omega) hnm)
  rw [size_alloc'] at HDF
  have HF1 := Lib.hid (pair_bools dif l m)
  have HF2 := Lib.hid (pair_bools (fun a b => a && !b) l m)
  have HFL := Lib.hid (pairL_len dif l m)
  have e1 : ((pairL dif l m).k : Int) = (pairL (fun a b => a && !b) l m).k ∧ ((pairL dif l m).start : Int) = (pairL (fun a b => a && !b) l m).start ∧ (relOf (pairL dif l m)).next = (relOf (pairL (fun a b => a && !b) l m)).next := ⟨rfl, rfl, rfl⟩
  rw [← e1.1, ← e1.2.1, ← e1.2.2]
  clear e1
  obtain ⟨ba, oa, ca, bb, ob, cb, V, hba, hbb, hptr, hcell, -⟩ := laidP hl h hB hbp
  obtain ⟨bc, oc, cc, bd, od, cd, U, hbc, hbd, hptr', hcell', -⟩ := laidP hm h' hB hbq
  have HPB := Lib.hid (fun W hW => (hptr W hW).2.2.1)
  have HQB := Lib.hid (fun W hW => (hptr' W hW).2.2.1)
  have HC1 := Lib.hid (fun W hW p hp => (hcell W hW p hp).1)
  have HC2 := Lib.hid (fun W hW p hp => (hcell' W hW p hp).1)
  have HML := Lib.hid (fun (x y : Nat) (hx : x < l.acc.length) (hy : y < m.acc.length) => And.intro (mul_le_pairB hx hy hnm) (pair_lt hx hy))
  obtain ⟨AD, hAD⟩ : ∃ x, x = (pairL dif l m).acc := ⟨_, rfl⟩
  obtain ⟨AT, hAT⟩ : ∃ x, x = (pairL (fun a b => a && !b) l m).acc := ⟨_, rfl⟩
  obtain ⟨NX, hNX⟩ : ∃ x, x = (relOf (pairL dif l m)).next := ⟨_, rfl⟩
  obtain ⟨k, hkk⟩ : ∃ x : Int, x = ((pairL dif l m).k : Int) := ⟨_, rfl⟩
  obtain ⟨st, hst⟩ : ∃ x : Int, x = ((pairL dif l m).start : Int) := ⟨_, rfl⟩
  rw [← hAD, ← hNX, ← hkk, ← hst] at HDF
  rw [← hAD] at HF1 HFL
  rw [← hAT] at HF2
  rw [← hAT, ← hNX, ← hkk, ← hst]
  obtain ⟨n1, hn1⟩ : ∃ n, n = l.acc.length := ⟨_, rfl⟩
  obtain ⟨n2, hn2⟩ : ∃ n, n = m.acc.length := ⟨_, rfl⟩
  rw [← hn1] at hl0 hs1 HPB HC1
  rw [← hn2] at hm0 hs2 HQB HC2
  rw [← hn1, ← hn2] at hnm HML HF1 HF2 HFL
  obtain ⟨fa, hfa⟩ : ∃ f : Nat → Bool, f = fun p => l.acc.getD p false := ⟨_, rfl⟩
  obtain ⟨fb, hfb⟩ : ∃ f : Nat → Bool, f = fun p => m.acc.getD p false := ⟨_, rfl⟩
  have HC1 := Lib.hid (show ∀ W, Below w.heap.size w W → ∀ p, p < n1 → W.cell? ⟨ba, oa + p, none⟩ = some (.bool (fa p)) from by rw [hfa]; exact HC1.out)
  have HC2 := Lib.hid (show ∀ W, Below w.heap.size w W → ∀ p, p < n2 → W.cell? ⟨bc, oc + p, none⟩ = some (.bool (fb p)) from by rw [hfb]; exact HC2.out)
  obtain ⟨fD, hfD⟩ : ∃ f : Nat → Bool, f = fun x => dif (l.acc.getD (x / n2) false) (m.acc.getD (x % n2) false) := ⟨_, rfl⟩
  obtain ⟨fT, hfT⟩ : ∃ f : Nat → Bool, f = fun x => (fun a b => a && !b) (l.acc.getD (x / n2) false) (m.acc.getD (x % n2) false) := ⟨_, rfl⟩
  rw [← hfD] at HF1
  rw [← hfT] at HF2
  have HFT := Lib.hid (show ∀ i j, j < n2 → fT (i * n2 + j) = (fun a b => a && !b) (fa i) (fb j) from fun i j hj => by rw [hfT, hfa, hfb]; show (fun a b => a && !b) _ _ = _; rw [pair_div hj, pair_mod hj])
  obtain ⟨nn, hnn⟩ : ∃ n, n = n1 * n2 := ⟨_, rfl⟩
  rw [← hnn] at HF1 HF2 HFL hnm
  have HNN := Lib.hid hnn
  have hnn0 : 0 < nn := by rw [hnn]; exact Nat.mul_pos hl0 hm0
  clear hAD hAT hNX hkk hst hn1 hn2 hfa hfb hfD hfT hnn hl hm hk h h' hB hptr hptr' hcell hcell'
  have hwp1 := hbp
  go_enter Try.func118, Try.ntmps118
  go_wp2_with fail
  refine HDF.out.mono ?_
  rintro e w1 ⟨va, vn, rfl, hbu, hb1⟩
  have hbu' := hbu
  obtain ⟨hacc, hrows⟩ := hbu'
  rw [HF1.out] at hacc
  obtain ⟨aa, na, cg, rfl, HNA⟩ := hacc.shape'
  have hna : na = nn := by rw [HNA.out, bvF_length]
  subst hna
  obtain ⟨g, rfl, -⟩ := hacc.addr (by rw [bvF_length]; exact hnn0)
  obtain ⟨items, -, hnx, -⟩ := hbu.rows
  obtain ⟨an, mn, cn, rfl, -⟩ := hnx.shape'
  have hk1 : Kp w w1 := hb1
  obtain ⟨X, hX⟩ : ∃ X, X = w1.heap.size := ⟨_, rfl⟩
  have HXS := Lib.hid (show w.heap.size + 1 ≤ X from by rw [hX]; exact Kp.size hk1)
  have HD0 := Lib.hid (show Fl (w1.alloc (.cells #[.int .i64 k, .int .i64 st, .slice (some ⟨g, 0, none⟩) na cg, .slice an mn cn] 29)) (w.heap.size + 1) X k st g na cg (.slice an mn cn) (fun x => if x < 0 * n2 + 0 then fT x else fD x) NX from by
    refine ⟨?_, ?_, by rw [hX]; exact heap_alloc_new _ _⟩
    · rw [Nat.zero_mul, bvF_congr (g := fD) (fun q hq => if_neg (Nat.not_lt_zero q))]; exact hacc.alloc _
    · have hr : Built w1 (w.heap.size + 1) (.slice none 0 0) (.slice an mn cn) [] NX := ⟨Lst.nil _ _ _, hrows⟩
      exact hr.below ((Below.refl _ _).alloc (Nat.le_refl _) _))
  have HK0 := Lib.hid (show Kp w (w1.alloc (.cells #[.int .i64 k, .int .i64 st, .slice (some ⟨g, 0, none⟩) na cg, .slice an mn cn] 29)) from Below.alloc hk1 (Kp.size hk1) _)
  have q2 := HQB.out _ (Kp.base hk1)
  have lq : bq < w1.heap.size := by have := Kp.size hk1; omega
  clear hbu hb1 hacc hrows hnx hk1 HDF
  go_wp2_with fail
  rw [← hX]
  clear hX q2 lq
  go_loopw [9, 10, 11, 12] (fun s9 _ _ _ wr => ∃ i : Nat, i ≤ n1 ∧ s9 = .int .i64 i ∧ Fl wr (w.heap.size + 1) X k st g na cg (.slice an mn cn) (fun x => if x < i * n2 + 0 then fT x else fD x) NX ∧ Kp w wr) (fun s9 _ _ _ _ => n1 - (intOf s9).toNat)
  case atStart => exact ⟨0, Nat.zero_le _, rfl, HD0.out, HK0.out⟩
  case round =>
    obtain ⟨i, hi, rfl, hd, hk⟩ := hrel
    have HD := Lib.hid hd
    have HK := Lib.hid hk
    have q1 := HPB.out _ (Kp.base hk)
    have lp : bp < wr.heap.size := by have := Kp.size hk; omega
    clear hd hk HD0 HK0
    by_cases hlt : i < n1
    · go_wp2_with fail
      go_loopw [10, 11, 12] (fun s10 _ _ wr2 => ∃ j : Nat, j ≤ n2 ∧ s10 = .int .i64 j ∧ Fl wr2 (w.heap.size + 1) X k st g na cg (.slice an mn cn) (fun x => if x < i * n2 + j then fT x else fD x) NX ∧ Kp w wr2) (fun s10 _ _ _ => n2 - (intOf s10).toNat)
      case atStart => exact ⟨0, Nat.zero_le _, rfl, HD.out, HK.out⟩
      case round =>
        obtain ⟨j, hj, rfl, hd, hk⟩ := hrel
        have HD2 := Lib.hid hd
        have HK2 := Lib.hid hk
        clear hd HD HK q1 lp
        by_cases hlj : j < n2
        · have ea := HC1.out _ (Kp.base hk) i hlt
          have eb := HC2.out _ (Kp.base hk) j hlj
          have q1 := HPB.out _ (Kp.base hk)
          have q2 := HQB.out _ (Kp.base hk)
          have lp : bp < wr.heap.size := by have := Kp.size hk; omega
          have lq : bq < wr.heap.size := by have := Kp.size hk; omega
          have la : ba < wr.heap.size := by have := Kp.size hk; omega
          have lb : bc < wr.heap.size := by have := Kp.size hk; omega
          obtain ⟨⟨hP1, hP2⟩, hP3⟩ := HML.out i j hlt hlj
          rw [← HNN.out] at hP3
          have HTV := Lib.hid (HFT.out i j hlj)
          obtain ⟨a, ha⟩ : ∃ a, a = fa i := ⟨_, rfl⟩
          obtain ⟨b, hb⟩ : ∃ b, b = fb j := ⟨_, rfl⟩
          rw [← ha, ← hb] at HTV
          rw [← ha] at ea
          rw [← hb] at eb
          obtain ⟨P, hP⟩ : ∃ P, P = i * n2 := ⟨_, rfl⟩
          have hmul : (i : Int) * (n2 : Int) = (P : Int) := by rw [hP]; exact (Int.natCast_mul i n2).symm
          have HPE := Lib.hid hP
          rw [← hP] at hP1 hP2 hP3
          obtain ⟨y, hy⟩ : ∃ y, y = P + j := ⟨_, rfl⟩
          have hsum : (P : Int) + (j : Int) = (y : Int) := by rw [hy]; exact (Int.natCast_add P j).symm
          rw [← hy] at hP2 hP3
          have HYE := Lib.hid (show y = i * n2 + j from by rw [hy, hP])
          have hwP : IntKind.i64.wrap (P : Int) = (P : Int) := by rw [IntKind.wrap_i64]; omega
          have hwy : IntKind.i64.wrap (y : Int) = (y : Int) := by rw [IntKind.wrap_i64]; omega
          have hy0 : (0 : Int) ≤ (y : Int) := Int.natCast_nonneg _
          have hy1 : (y : Int) < (na : Int) := by omega
          have hat := HD2.out.at_
          have x2 := cells_get hat 2
          simp at x2
          have hXl := HD2.out.lt
          have hgX := HD2.out.ne
          have c9 := HD2.out.acc.cellOf (i := y) (by rw [bvF_length]; exact hP3)
          have f9 := HD2.out.acc.free y
          have hgl := HD2.out.acc.lt (k := g) rfl
          have c9' : wr.cell? ⟨g, y, none⟩ = some (.bool (fD y)) := by rw [c9]; simp [bvF, HYE.out]
          obtain ⟨z, hz⟩ : ∃ z, z = fD y := ⟨_, rfl⟩
          rw [← hz] at c9'
          clear c9 ha hb hP hy hz hk hat
          have HTV := Lib.hid (show fT y = (a && !b) from by rw [HYE.out]; exact HTV.out)
          have HSET := Lib.hid (show ∀ W, Fl W (w.heap.size + 1) X k st g na cg (.slice an mn cn) (fun x => if x < i * n2 + j then fT x else fD x) NX → Fl (W.setCell ⟨g, y, none⟩ (.bool (a && !b))) (w.heap.size + 1) X k st g na cg (.slice an mn cn) (fun x => if x < i * n2 + (j + 1) then fT x else fD x) NX from fun W hW => by
            refine (hW.set (i := y) hP3 (a && !b)).congr fun q hq => ?_
            by_cases e : q = y
            · subst e
              rw [if_pos rfl, if_pos (by have := HYE.out; omega), HTV.out]
            · have : (q < i * n2 + (j + 1)) = (q < i * n2 + j) := by apply propext; have := HYE.out; constructor <;> intro h <;> omega
              simp only [if_neg e, this])
          have HKS := Lib.hid (show ∀ W, Kp w W → ∀ u, Kp w (W.setCell ⟨g, y, none⟩ u) from fun W hW u => hW.setCell (p := ⟨g, y, none⟩) (HD2.out.acc.ge (k := g) rfl) u)
          cases a <;> cases b
          all_goals
            go_wp2_with fail
            go_roundw
            case rel => exact ⟨j + 1, hlj, by go_num, HSET.out _ HD2.out, HKS.out _ HK2.out _⟩
            case measure => simp [intOf]; omega
        · obtain rfl : j = n2 := by omega
          have HNEXT := Lib.hid (show (i + 1) * j + 0 = i * j + j from Nat.succ_mul i j)
          clear hk
          go_wp2_with fail
          go_roundw
          case rel => exact ⟨i + 1, hlt, by go_num, by rw [HNEXT.out]; exact HD2.out, HK2.out⟩
          case measure => simp [intOf]; omega
    · obtain rfl : i = n1 := by omega
      have HB7 := Lib.hid (show Built wr (w.heap.size + 1) (.slice (some ⟨g, 0, none⟩) na cg) (.slice an mn cn) AT NX from by
        refine ⟨?_, HD.out.rows.rows⟩
        rw [HF2.out, bvF_congr (g := fun x => if x < i * n2 + 0 then fT x else fD x) (fun q hq => (if_pos (by have := HNN.out; omega)).symm)]
        exact HD.out.acc)
      have hat := HD.out.at_
      have hXl := HD.out.lt
      have y0 := cells_get hat 0
      have y1 := cells_get hat 1
      have y2 := cells_get hat 2
      have y3 := cells_get hat 3
      simp at y0 y1 y2 y3
      have HR7 := Lib.hid (Kp.res HK.out)
      have HBS := Lib.hid (Kp.base HK.out)
      have hres := HR7.out
      have r0 := cells_get hres 0
      have r1 := cells_get hres 1
      have r2 := cells_get hres 2
      have r3 := cells_get hres 3
      have f0 := cells_free hres 0
      have f1 := cells_free hres 1
      have f2 := cells_free hres 2
      have f3 := cells_free hres 3
      have hlS := lt_of_block hres
      have p0 := cells_set hres 0 (.int .i64 k)
      have p1 := cells_set p0 1 (.int .i64 st)
      have p2 := cells_set p1 2 (.slice (some ⟨g, 0, none⟩) na cg)
      have p3 := cells_set p2 3 (.slice an mn cn)
      simp at r0 r1 r2 r3 p3
      have g0 := cells_get p3 0
      have g1 := cells_get p3 1
      have g2 := cells_get p3 2
      have g3 := cells_get p3 3
      simp at g0 g1 g2 g3
      have HG := Lib.hid (And.intro g0 (And.intro g1 (And.intro g2 g3)))
      clear p0 p1 p2 p3 g0 g1 g2 g3 hres hat HD
      go_wp2_with fail
      obtain ⟨g0, g1, g2, g3⟩ := HG.out
      refine bodyPost_ret (v := .agg #[.int .i64 k, .int .i64 st, .slice (some ⟨g, 0, none⟩) na cg, .slice an mn cn]) (by simp [results, Try.results118, go_sem, g0, g1, g2, g3]) rfl ⟨.slice (some ⟨g, 0, none⟩) na cg, .slice an mn cn, rfl, ?_, ?_⟩
      · exact ((((HB7.out.setLow (a := ⟨w.heap.size, 0, none⟩) (Nat.lt_succ_self _) _).setLow (a := ⟨w.heap.size, 1, none⟩) (Nat.lt_succ_self _) _).setLow (a := ⟨w.heap.size, 2, none⟩) (Nat.lt_succ_self _) _).setLow (a := ⟨w.heap.size, 3, none⟩) (Nat.lt_succ_self _) _).mono (Nat.le_succ _)
      · exact ((((HBS.out.setCell (p := ⟨w.heap.size, 0, none⟩) (Nat.le_refl _) _).setCell (p := ⟨w.heap.size, 1, none⟩) (Nat.le_refl _) _).setCell (p := ⟨w.heap.size, 2, none⟩) (Nat.le_refl _) _).setCell (p := ⟨w.heap.size, 3, none⟩) (Nat.le_refl _) _)
end Go.Proofs.Ytaebeglcoghehaa.PairSB
/- What the model's and the library's functions that compare lists answer.
   Conditions: the lists are read as XMem's text says. -/
namespace Go.Proofs.Ytaebeglcoghehaa.Same
open Go.RowKit Mem Rel

end Go.Proofs.Ytaebeglcoghehaa.Same
/- What SameRelation answers, the program's and the model's.
   Conditions: the relations are read as XRel's text says. -/
namespace Go.Proofs.Ytaebeglcoghehaa.SameRel
open Go.RowKit Mem Rel Same

theorem sameRel_no1 {r s : R} (h : ¬ r.tapes = s.tapes) : sameRel r s = false := by simp [sameRel, h]
theorem sameRel_no2 {r s : R} (h : ¬ r.start = s.start) : sameRel r s = false := by simp [sameRel, h]
theorem sameRel_no3 {r s : R} (h : same r.accept s.accept = false) : sameRel r s = false := by simp [sameRel, h]
theorem sameRel_no4 {r s : R} (h : same r.next s.next = false) : sameRel r s = false := by simp [sameRel, h]
theorem sameRel_yes {r s : R} (h1 : r.tapes = s.tapes) (h2 : r.start = s.start) (h3 : same r.accept s.accept = true) (h4 : same r.next s.next = true) : sameRel r s = true := by simp [sameRel, h1, h2, h3, h4]

theorem IntRows_drewN {w : World} {B : Nat} {v : Value} {xss : List (List Int)} (h : IntRows w B v xss) (m : Nat) : IntRows (w.drewN m) B v xss := h

end Go.Proofs.Ytaebeglcoghehaa.SameRel
