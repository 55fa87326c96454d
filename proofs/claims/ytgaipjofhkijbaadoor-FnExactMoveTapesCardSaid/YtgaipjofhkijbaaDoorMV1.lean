
/- What the program's AddTape answers: a relation in memory of its own, and a code.
   Conditions: the relation is read as XRel's text says; the type's handle lies where errors.As reads it. -/
import Derived.Test.YtgaipjofhkijbaaDoorIM25
import Derived.Test.YtgaipjofhkijbaaDoorIM10
import Derived.Test.YtgaipjofhkijbaaDoorIM24
namespace Go.Proofs.YtgaipjofhkijbaaDoor.AddFn
set_option linter.unusedVariables false
set_option linter.unusedSimpArgs false
set_option maxRecDepth 100000
open Go.RowKit Go.Maps Mem Copy Rel Valid Heap Bld Columns ColMath SpecFiner Numbers TidyMath TidyAuto TidyRight SpecRight ToL SpecTidyRel ImplRight ImplTidied ErrCode OppImpl Automaton TapeMath Reread RereadI MoveI TapeI WithoutI AddI StepI TapeFn

theorem two_cells (w : World) (p q : Value) (t u : TypeId) : ((w.alloc (.cells #[p] t)).alloc (.cells #[q] u)).cell? ⟨w.heap.size, 0, none⟩ = some p ∧ w.heap.size < ((w.alloc (.cells #[p] t)).alloc (.cells #[q] u)).heap.size ∧ ((w.alloc (.cells #[p] t)).alloc (.cells #[q] u)).cell? ⟨w.heap.size + 1, 0, none⟩ = some q ∧ w.heap.size + 1 < ((w.alloc (.cells #[p] t)).alloc (.cells #[q] u)).heap.size := by
  have e1 := size_alloc' w (.cells #[p] t)
  have e2 := size_alloc' (w.alloc (.cells #[p] t)) (.cells #[q] u)
  have h1 := heap_alloc_new w (.cells #[p] t)
  have h2 := heap_alloc_new (w.alloc (.cells #[p] t)) (.cells #[q] u)
  rw [e1] at h2
  have h3 : ((w.alloc (.cells #[p] t)).alloc (.cells #[q] u)).heap[w.heap.size]? = some (.cells #[p] t (0, 0)) := by rw [Below.heap_alloc _ _ _ (by omega)]; exact h1
  exact ⟨cells_get h3 0, by omega, cells_get h2 0, by omega⟩
theorem k0_two {w W : World} {X : Array Value} (h : K0 w X W) (a b : Obj) : K0 w X ((W.alloc a).alloc b).drew :=
  Below.drew (Below.alloc (Below.alloc h (K0.size h) a) (by rw [size_alloc']; exact Nat.le_succ_of_le (K0.size h)) b)
theorem k0_step {w W w' : World} {X : Array Value} (h : K0 w X W) (hb : Below W.heap.size W w') : K0 w X w' := Below.trans h (hb.mono (K0.size h))
theorem add_bad {r : R} {x : Int} (hok : okB r = false) : ansC (addC r x) (addL r x) = 1 ∧ ansK (addC r x) (addL r x) = 0 ∧ ansA (addC r x) (addL r x) = [] ∧ ansN (addC r x) (addL r x) = [] := by
  have e : addC r x = 1 := by simp [addC, hok]
  have := ans_no (addL r x) (c := addC r x) (by rw [e]; decide)
  rw [e] at this ⊢; exact this
theorem add_far {r : R} {x : Int} (hok : okB r = true) (h : ¬ (0 ≤ x ∧ x ≤ r.tapes ∧ r.tapes ≠ 3)) : ansC (addC r x) (addL r x) = 2 ∧ ansK (addC r x) (addL r x) = 0 ∧ ansA (addC r x) (addL r x) = [] ∧ ansN (addC r x) (addL r x) = [] := by
  have e : addC r x = 2 := by simp only [addC, if_pos hok, if_neg h]
  have := ans_no (addL r x) (c := addC r x) (by rw [e]; decide)
  rw [e] at this ⊢; exact this
theorem add_good {r : R} {x : Int} (hok : okB r = true) (h : 0 ≤ x ∧ x ≤ r.tapes ∧ r.tapes ≠ 3) : ansC (addC r x) (addL r x) = (if fewB (addL r x) 150 = true then 0 else 3) ∧ ansK (addC r x) (addL r x) = fewK (addL r x) 150 ∧ ansA (addC r x) (addL r x) = fewA (addL r x) 150 ∧ ansN (addC r x) (addL r x) = fewN (addL r x) 150 := by
  have e : addC r x = 0 := by simp only [addC, if_pos hok, if_pos h]
  exact ans_yes (addL r x) e
theorem add_k {r : R} {x : Int} (hok : okB r = true) (h : 0 ≤ x ∧ x ≤ r.tapes ∧ r.tapes ≠ 3) : (toL r).k ≤ 2 ∧ x.toNat ≤ (toL r).k := by
  have h3 := (okL hok).1.2.k3
  have e : (toL r).k = r.tapes.toNat := rfl
  omega
theorem add_ok {r : R} {x : Int} (hok : okB r = true) (h : 0 ≤ x ∧ x ≤ r.tapes ∧ r.tapes ≠ 3) : (addL r x).Ok := leftL_ok (okL hok).1.2 (add_k hok h).1 (add_k hok h).2

set_option maxHeartbeats 8000000 in
theorem implAdd (v : Value) (r : R) (x : Int) (w : World) (B : Nat) (h : RelAt w B v r) (hB : B ≤ w.heap.size) (hg : Laid w) :
    Calls Tryd.prog 20 #[v, .int .i64 x] w fun e w' => ∃ va vn, e = .returned (.tuple #[.agg #[.int .i64 (ansK (addC r x) (addL r x)), .int .i64 0, va, vn], .int .i64 (ansC (addC r x) (addL r x))]) ∧ Built w' w.heap.size va vn (ansA (addC r x) (addL r x)) (ansN (addC r x) (addL r x)) ∧ Below w.heap.size w w' := by
  have HV := Lib.hid (fun W (hb : Below w.heap.size w W) => ValidImpl.implValid v r W B (h.below hb hB) (Nat.le_trans hB hb.size))
  have HGL := Lib.hid (fun W (hb : Below w.heap.size w W) => hg.below hb)
  have HN1 := Lib.hid (fun (hok : okB r = false) => add_bad (x := x) hok)
  have HN2 := Lib.hid (fun (hok : okB r = true) h => add_far (r := r) (x := x) hok h)
  have HN3 := Lib.hid (fun (hok : okB r = true) h => add_good (r := r) (x := x) hok h)
  have HF := Lib.hid (few_no (addL r x))
  have h' := h
  obtain ⟨va, vn, rfl, ha, hx⟩ := h'
  obtain ⟨aa, ba, oa, ca, rfl, -, -, -⟩ := ha
  obtain ⟨-, ⟨ab, bb, ob, cb, rfl, -, -, -⟩, -⟩ := hx
  have HIN := Lib.hid (fun (hok : okB r = true) (hx : 0 ≤ x ∧ x ≤ r.tapes ∧ r.tapes ≠ 3) W (hb : Below w.heap.size w W) b1 g (h1 : W.cell? ⟨b1, 0, none⟩ = some (.int .i64 x)) (l1 : b1 < W.heap.size) (h2 : W.cell? ⟨g, 0, none⟩ = some (.func (.func 67) #[] #[.pointer (some ⟨b1, 0, none⟩)])) (l2 : g < W.heap.size) => (show Calls Tryd.prog 43 #[.agg #[.int .i64 r.tapes, .int .i64 r.start, .slice aa r.accept.length ca, .slice ab r.next.length cb], .slice (some ⟨g, 0, none⟩) 1 1] W (fun e w' => StepR (addL r x) W e w') from by
    have e1 := okL hok
    have ek := add_k hok hx
    have hx0 : x = (x.toNat : Nat) := by omega
    refine inSteps1 (addL r x) _ _ _ _ _ _ _ _ W 67 #[.pointer (some ⟨b1, 0, none⟩)] (fun _ _ => rfl) g h2 l2 (fun W' hb' => ?_)
    exact tapeStepI (toL r) e1.1.2 ek.1 x.toNat ek.2 _ W' W'.heap.size (by rw [e1.1.1]; exact (h.below (hb.trans (hb'.mono hb.size)) hB).mono (Nat.le_trans hB (Nat.le_trans hb.size hb'.size))) (Nat.le_refl _) (by have := e1.2; omega) b1 (by rw [← hx0]; exact (hb'.cell (p := ⟨b1, 0, none⟩) l1).trans h1) (Nat.lt_of_lt_of_le l1 hb'.size)))
  unfold StepR at HIN
  obtain ⟨cC, hcC⟩ : ∃ y, y = ansC (addC r x) (addL r x) := ⟨_, rfl⟩
  obtain ⟨cK, hcK⟩ : ∃ y, y = ansK (addC r x) (addL r x) := ⟨_, rfl⟩
  obtain ⟨cA, hcA⟩ : ∃ y, y = ansA (addC r x) (addL r x) := ⟨_, rfl⟩
  obtain ⟨cN, hcN⟩ : ∃ y, y = ansN (addC r x) (addL r x) := ⟨_, rfl⟩
  rw [← hcC, ← hcK, ← hcA, ← hcN] at HN1 HN2 HN3 ⊢
  obtain ⟨L1, hL1⟩ : ∃ y, y = addL r x := ⟨_, rfl⟩
  rw [← hL1] at HIN HN3 HF
  obtain ⟨q, hq⟩ : ∃ y, y = okB r := ⟨_, rfl⟩
  rw [← hq] at HV HIN HN1 HN2 HN3
  clear hcC hcK hcA hcN hL1 hq hg
  obtain ⟨k, hk⟩ : ∃ k : Int, k = r.tapes := ⟨_, rfl⟩
  obtain ⟨st, hs⟩ : ∃ st : Int, st = r.start := ⟨_, rfl⟩
  obtain ⟨na, hna⟩ : ∃ na, na = r.accept.length := ⟨_, rfl⟩
  obtain ⟨nb, hnb⟩ : ∃ nb, nb = r.next.length := ⟨_, rfl⟩
  rw [← hk, ← hs, ← hna, ← hnb] at HV HIN
  rw [← hk] at HN2 HN3
  rw [← hk, ← hs, ← hna, ← hnb]
  have HK0 := Lib.hid (show K0 w #[.int .i64 k, .int .i64 st, .slice aa na ca, .slice ab nb cb] ((w.alloc (.cells #[.int .i64 k, .int .i64 st, .slice aa na ca, .slice ab nb cb] 27)).alloc (.cells #[Value.int .i64 0, .int .i64 0, .slice none 0 0, .slice none 0 0] 27)) from Below.refl _ _)
  have HV1 := Lib.hid (HV.out _ (K0.base HK0.out))
  clear hk hs hna hnb HV hB
  go_enter Tryd.func20, Tryd.ntmps20
  go_wp2_with fail
  refine HV1.out.mono ?_
  rintro e w3 ⟨rfl, hb3⟩
  have hk3 : K0 w #[.int .i64 k, .int .i64 st, .slice aa na ca, .slice ab nb cb] w3 := by
    have h1 := hb3
    rw [size_alloc', size_alloc'] at h1
    exact h1
  have HK3 := Lib.hid hk3
  have r0 := cells_get (K0.res hk3) 0
  have r1 := cells_get (K0.res hk3) 1
  have r2 := cells_get (K0.res hk3) 2
  have r3 := cells_get (K0.res hk3) 3
  have f0 := cells_free (K0.res hk3) 0
  have f1 := cells_free (K0.res hk3) 1
  have f2 := cells_free (K0.res hk3) 2
  have f3 := cells_free (K0.res hk3) 3
  have hlS := lt_of_block (K0.res hk3)
  have x0 := cells_get (K0.box hk3) 0
  have x1 := cells_get (K0.box hk3) 1
  have x2 := cells_get (K0.box hk3) 2
  have x3 := cells_get (K0.box hk3) 3
  simp at r0 r1 r2 r3 x0 x1 x2 x3
  clear hb3 hk3 HV1 HK0
  have HTA := Lib.hid (tapeAddedI x)
  cases q with
  | false =>
    have HNO := Lib.hid (HN1.out rfl)
    clear HN1 HN2 HN3 HIN HF HGL HTA
    obtain ⟨rfl, rfl, rfl, rfl⟩ := HNO.out
    go_wp2_with fail
    obtain ⟨g0, g1, g2, g3⟩ := res4 (a := .int .i64 0) (b := .int .i64 0) (c := .slice none 0 0) (d := .slice none 0 0) (K0.res HK3.out)
    refine bodyPost_ret (v := .tuple #[.agg #[.int .i64 0, .int .i64 0, .slice none 0 0, .slice none 0 0], .int .i64 1]) (by simp [results, Tryd.results20, go_sem, g0, g1, g2, g3]) rfl ⟨.slice none 0 0, .slice none 0 0, rfl, ImplTidied.built_none _ _, ?_⟩
    exact set4_below (K0.base HK3.out) (Nat.le_succ _)
  | true =>
    by_cases h2 : 0 ≤ x ∧ x ≤ k ∧ k ≠ 3
    · have HYE := Lib.hid (HN3.out rfl h2)
      have HI3 := Lib.hid (fun W hb => HIN.out rfl h2 W hb)
      have HR2 := Lib.hid h2
      clear HN1 HN2 HN3 HIN
      obtain ⟨eC, eK, eA, eN⟩ := HYE.out
      rw [← eK, ← eA, ← eN] at HI3 HF
      obtain ⟨Q, hQ⟩ : ∃ Q, Q = fewB L1 150 := ⟨_, rfl⟩
      rw [← hQ] at HI3 HF eC
      have HEC := Lib.hid eC
      clear hQ eC eK eA eN HYE
      have d1 : decide (x < 0) = false := by have := HR2.out; simp; omega
      have d2 : decide (k < x) = false := by have := HR2.out; simp; omega
      have d3 : (k == 3) = false := by have := HR2.out; simp; omega
      clear h2
      go_upto_region 5 with fail
      have hlw := lt_of_block (K0.box HK3.out)
      have HT := Lib.hid (two_cells w3 (.int .i64 x) (.func (.func 67) #[] #[.pointer (some ⟨w3.heap.size, 0, none⟩)]) 2 64)
      have HTB := Lib.hid (k0_two HK3.out (.cells #[.int .i64 x] 2) (.cells #[.func (.func 67) #[] #[.pointer (some ⟨w3.heap.size, 0, none⟩)]] 64))
      have HTC := Lib.hid (K0.base HTB.out)
      go_region_with (first
        | (go_at_call 44; refine (HTA.out _).mono ?_; rintro e w4 ⟨rfl, rfl⟩; clear HTA)
        | (go_at_call 43; refine (HI3.out _ ?_ w3.heap.size (w3.heap.size + 1) ?_ ?_ ?_ ?_).mono ?_; exact HTC.out; exact HT.out.1; exact HT.out.2.1; exact HT.out.2.2.1; exact HT.out.2.2.2; rintro e w4 ⟨va, vn, rfl, hbu, hb4⟩; have HK4 := Lib.hid (k0_step HTB.out hb4); have HB4 := Lib.hid (hbu.mono (K0.size HTB.out)); clear hbu hb4; obtain ⟨a4, n4, c4, rfl, -⟩ := HB4.out.acc.shape'; obtain ⟨items4, -, hnx4, -⟩ := HB4.out.rows; obtain ⟨b4, m4, d4, rfl, -⟩ := hnx4.shape'; clear hnx4 HI3; have HO := Lib.hid (fun W (hW : Below w4.heap.size w4 W) => outcomeI Q cK a4 b4 n4 c4 m4 d4 150 W (HGL.out _ ((K0.base HK4.out).trans (hW.mono (K0.base HK4.out).size))) (w.heap.size + 2) cA cN (HB4.out.below hW) HF.out); rw [← HEC.out] at HO; clear r0 r1 r2 r3 f0 f1 f2 f3 hlS x0 x1 x2 x3)
        | (go_at_call 31; refine (HO.out _ ?_).mono ?_; (first | exact Below.refl _ _ | exact (Below.refl _ _).drew | exact (Below.refl _ _).drew.drew); rintro e w5 ⟨va, vn, rfl, hbu, hb5⟩; have HBU := Lib.hid hbu; obtain ⟨a5, n5, c5, rfl, -⟩ := hbu.acc.shape'; obtain ⟨items5, -, hnx5, -⟩ := hbu.rows; obtain ⟨b5, m5, d5, rfl, -⟩ := hnx5.shape'; have HK5 := Lib.hid (k0_step HK4.out hb5); have r0 := cells_get (K0.res HK5.out) 0; have r1 := cells_get (K0.res HK5.out) 1; have r2 := cells_get (K0.res HK5.out) 2; have r3 := cells_get (K0.res HK5.out) 3; have f0 := cells_free (K0.res HK5.out) 0; have f1 := cells_free (K0.res HK5.out) 1; have f2 := cells_free (K0.res HK5.out) 2; have f3 := cells_free (K0.res HK5.out) 3; have hlS := lt_of_block (K0.res HK5.out); simp at r0 r1 r2 r3; clear hbu hb5 hnx5 HO HF HGL))
      all_goals go_wp2_with fail
      all_goals obtain ⟨g0, g1, g2, g3⟩ := res4 (a := .int .i64 cK) (b := .int .i64 0) (c := .slice a5 n5 c5) (d := .slice b5 m5 d5) (K0.res HK5.out)
      all_goals refine bodyPost_ret (v := .tuple #[.agg #[.int .i64 cK, .int .i64 0, .slice a5 n5 c5, .slice b5 m5 d5], .int .i64 cC]) (by simp [results, Tryd.results20, go_sem, g0, g1, g2, g3]) rfl ⟨.slice a5 n5 c5, .slice b5 m5 d5, rfl, ?_, ?_⟩
      all_goals first
        | exact (set4_built HBU.out (by omega)).mono (by omega)
        | exact set4_below (K0.base HK5.out) (Nat.le_succ _)
    · have HNO := Lib.hid (HN2.out rfl h2)
      clear HN1 HN2 HN3 HIN HF HGL HTA
      obtain ⟨rfl, rfl, rfl, rfl⟩ := HNO.out
      rcases (show x < 0 ∨ (0 ≤ x ∧ k < x) ∨ (0 ≤ x ∧ x ≤ k ∧ k = 3) from by omega) with h | h | h
      · have d1 : decide (x < 0) = true := by simp; omega
        clear h h2
        go_wp2_with fail
        obtain ⟨g0, g1, g2, g3⟩ := res4 (a := .int .i64 0) (b := .int .i64 0) (c := .slice none 0 0) (d := .slice none 0 0) (K0.res HK3.out)
        refine bodyPost_ret (v := .tuple #[.agg #[.int .i64 0, .int .i64 0, .slice none 0 0, .slice none 0 0], .int .i64 2]) (by simp [results, Tryd.results20, go_sem, g0, g1, g2, g3]) rfl ⟨.slice none 0 0, .slice none 0 0, rfl, ImplTidied.built_none _ _, ?_⟩
        exact set4_below (K0.base HK3.out) (Nat.le_succ _)
      · have d1 : decide (x < 0) = false := by simp; omega
        have d2 : decide (k < x) = true := by simp; omega
        clear h h2
        go_wp2_with fail
        obtain ⟨g0, g1, g2, g3⟩ := res4 (a := .int .i64 0) (b := .int .i64 0) (c := .slice none 0 0) (d := .slice none 0 0) (K0.res HK3.out)
        refine bodyPost_ret (v := .tuple #[.agg #[.int .i64 0, .int .i64 0, .slice none 0 0, .slice none 0 0], .int .i64 2]) (by simp [results, Tryd.results20, go_sem, g0, g1, g2, g3]) rfl ⟨.slice none 0 0, .slice none 0 0, rfl, ImplTidied.built_none _ _, ?_⟩
        exact set4_below (K0.base HK3.out) (Nat.le_succ _)
      · have d1 : decide (x < 0) = false := by simp; omega
        have d2 : decide (k < x) = false := by simp; omega
        have d3 : (k == 3) = true := by simp; omega
        clear h h2
        go_wp2_with fail
        obtain ⟨g0, g1, g2, g3⟩ := res4 (a := .int .i64 0) (b := .int .i64 0) (c := .slice none 0 0) (d := .slice none 0 0) (K0.res HK3.out)
        refine bodyPost_ret (v := .tuple #[.agg #[.int .i64 0, .int .i64 0, .slice none 0 0, .slice none 0 0], .int .i64 2]) (by simp [results, Tryd.results20, go_sem, g0, g1, g2, g3]) rfl ⟨.slice none 0 0, .slice none 0 0, rfl, ImplTidied.built_none _ _, ?_⟩
        exact set4_below (K0.base HK3.out) (Nat.le_succ _)
end Go.Proofs.YtgaipjofhkijbaaDoor.AddFn
/- Lists that name each tape just once, and how they are found out, element by element.
   Conditions: stated at each theorem. -/
namespace Go.Proofs.YtgaipjofhkijbaaDoor.OrdMath
set_option linter.unusedVariables false
set_option linter.unusedSimpArgs false
open TapeMath

/-- Whether a list has each tape just once. -/
def ordB (k : Nat) (o : List Int) : Bool := (orders k).any fun p => p.map Int.ofNat == o
/-- Whether one of the first t elements is x. -/
def metB (o : List Int) (t : Nat) (x : Int) : Bool := (List.range t).any fun i => o.getD i 0 == x
/-- Whether the first t elements are tapes, none of them twice. -/
def fineB (k : Nat) (o : List Int) : Nat → Bool
  | 0 => true
  | t + 1 => fineB k o t && (decide (0 ≤ o.getD t 0) && decide (o.getD t 0 < k) && !metB o t (o.getD t 0))

theorem metB_zero (o : List Int) (x : Int) : metB o 0 x = false := rfl
theorem metB_succ (o : List Int) (t : Nat) (x : Int) : metB o (t + 1) x = (metB o t x || o.getD t 0 == x) := by
  unfold metB
  rw [List.range_succ, List.any_append]; simp
theorem fineB_step {k : Nat} {o : List Int} {t : Nat} (h : fineB k o t = true) (h0 : 0 ≤ o.getD t 0) (h1 : o.getD t 0 < k) (h2 : metB o t (o.getD t 0) = false) : fineB k o (t + 1) = true := by
  unfold fineB
  rw [h, h2]; simp; exact ⟨by simpa using h0, by simpa using h1⟩
theorem fineB_far {k : Nat} {o : List Int} {t : Nat} (h : ¬ (0 ≤ o.getD t 0 ∧ o.getD t 0 < k)) : fineB k o (t + 1) = false := by
  unfold fineB
  have : (decide (0 ≤ o.getD t 0) && decide (o.getD t 0 < (k : Int))) = false := by
    rw [← Bool.not_eq_true, Bool.and_eq_true, decide_eq_true_eq, decide_eq_true_eq]; exact h
  rw [this]; simp
theorem fineB_met {k : Nat} {o : List Int} {t : Nat} (h : metB o t (o.getD t 0) = true) : fineB k o (t + 1) = false := by
  unfold fineB
  rw [h]; simp
theorem fineB_le {k : Nat} {o : List Int} {s t : Nat} (hst : s ≤ t) (h : fineB k o t = true) : fineB k o s = true := by
  induction t with
  | zero => obtain rfl : s = 0 := by omega
            exact h
  | succ t ih =>
    by_cases e : s = t + 1
    · rw [e]; exact h
    · unfold fineB at h
      rw [Bool.and_eq_true] at h
      exact ih (by omega) h.1
def allFine : Bool := (List.range 4).all fun k => k == 0 || (orders k).all fun p => fineB k (p.map Int.ofNat) k && (p.length == k)
theorem allFine_true : allFine = true := by decide +kernel
theorem fine_of_ord {k : Nat} {o : List Int} (h1 : 1 ≤ k) (h3 : k ≤ 3) (h : ordB k o = true) : fineB k o k = true ∧ o.length = k ∧ o.map Int.toNat ∈ orders k ∧ (o.map Int.toNat).map Int.ofNat = o := by
  unfold ordB at h
  obtain ⟨p, hp, he⟩ := List.any_eq_true.1 h
  have he := eq_of_beq he
  have h0 := List.all_eq_true.1 allFine_true k (List.mem_range.2 (by omega))
  rw [Bool.or_eq_true] at h0
  have h2 := List.all_eq_true.1 (h0.resolve_left (by simp; omega)) p hp
  rw [Bool.and_eq_true] at h2
  have e : (p.map Int.ofNat).map Int.toNat = p := by
    rw [List.map_map]; conv => rhs; rw [← List.map_id p]
    exact List.map_congr_left fun x _ => rfl
  subst he
  rw [e, List.length_map]
  exact ⟨h2.1, eq_of_beq h2.2, hp, rfl⟩
theorem ord_of_fine {k : Nat} {o : List Int} (h1 : 1 ≤ k) (h3 : k ≤ 3) (hl : o.length = k) (h : fineB k o k = true) : ordB k o = true := by
  have : k = 1 ∨ k = 2 ∨ k = 3 := by omega
  rcases this with rfl | rfl | rfl
  · obtain ⟨a, rfl⟩ : ∃ a, o = [a] := List.length_eq_one_iff.1 hl
    simp [fineB, metB] at h
    obtain rfl : a = 0 := by omega
    decide
  · obtain ⟨a, b, rfl⟩ : ∃ a b, o = [a, b] := by
      match o, hl with
      | [a, b], _ => exact ⟨a, b, rfl⟩
    simp [fineB, metB, List.range_succ] at h
    obtain ⟨h5, h6, h7⟩ := h
    have : (a = 0 ∨ a = 1) ∧ (b = 0 ∨ b = 1) := by omega
    rcases this with ⟨rfl | rfl, rfl | rfl⟩ <;> first | decide | (exact absurd rfl h7) | omega
  · obtain ⟨a, b, c, rfl⟩ : ∃ a b c, o = [a, b, c] := by
      match o, hl with
      | [a, b, c], _ => exact ⟨a, b, c, rfl⟩
    simp [fineB, metB, List.range_succ] at h
    obtain ⟨⟨h4, h5, h6⟩, h7, h8⟩ := h
    have : (a = 0 ∨ a = 1 ∨ a = 2) ∧ (b = 0 ∨ b = 1 ∨ b = 2) ∧ (c = 0 ∨ c = 1 ∨ c = 2) := by omega
    rcases this with ⟨rfl | rfl | rfl, rfl | rfl | rfl, rfl | rfl | rfl⟩ <;> first | decide | (exact absurd rfl h6) | (exact absurd rfl h8.1) | (exact absurd rfl h8.2)
/-- Not each tape just once: the length is another, or the first elements tell. -/
theorem ord_no {k : Nat} {o : List Int} (h1 : 1 ≤ k) (h3 : k ≤ 3) {t : Nat} (ht : t ≤ k) (h : fineB k o t = false) : ordB k o = false := by
  cases e : ordB k o with
  | false => rfl
  | true => rw [fineB_le ht (fine_of_ord h1 h3 e).1] at h; cases h
theorem ord_len {k : Nat} {o : List Int} (h1 : 1 ≤ k) (h3 : k ≤ 3) (h : o.length ≠ k) : ordB k o = false := by
  cases e : ordB k o with
  | false => rfl
  | true => exact absurd (fine_of_ord h1 h3 e).2.1 h
end Go.Proofs.YtgaipjofhkijbaaDoor.OrdMath
/- Whether a list has each tape of a relation just once, as the program finds it out.
   Conditions: stated at each theorem. -/
namespace Go.Proofs.YtgaipjofhkijbaaDoor.OrdI
set_option linter.unusedVariables false
set_option linter.unusedSimpArgs false
set_option maxRecDepth 100000
open Go.RowKit Mem Copy Rel Heap Bld Columns ColMath Numbers TidyRight TapeMath OrdMath

/-- The relation's box is made, and what was before stays. -/
def KB (w : World) (x : Array Value) (W : World) : Prop := Below (w.heap.size + 1) (w.alloc (.cells x 27)) W
theorem KB.new (w : World) (x : Array Value) : KB w x (w.alloc (.cells x 27)) := Below.refl _ _
theorem KB.size {w W : World} {x : Array Value} (h : KB w x W) : w.heap.size + 1 ≤ W.heap.size := by
  have := Below.size h
  rw [size_alloc'] at this; exact this
theorem KB.base {w W : World} {x : Array Value} (h : KB w x W) : Below w.heap.size w W :=
  ((Below.refl _ _).alloc (Nat.le_refl _) _).trans (Below.mono h (by omega))
theorem KB.box {w W : World} {x : Array Value} (h : KB w x W) : W.heap[w.heap.size]? = some (.cells x 27 (0, 0)) := by
  rw [Below.block h _ (by omega)]; exact heap_alloc_new _ _

theorem hasTapeI (k st : Int) (aa ab : Option Addr) (na ca nb cb : Nat) (x : Int) (w : World) :
    Calls Tryd.prog 61 #[.agg #[.int .i64 k, .int .i64 st, .slice aa na ca, .slice ab nb cb], .int .i64 x] w fun e w' => e = .returned (.bool (decide (0 ≤ x ∧ x < k))) ∧ Below w.heap.size w w' := by
  by_cases h0 : 0 ≤ x
  · have d0 : decide (0 ≤ x) = true := by simpa using h0
    by_cases h1 : x < k
    · have d1 : decide (x < k) = true := by simpa using h1
      have E : decide (0 ≤ x ∧ x < k) = true := by simp [h0, h1]
      go_enter Tryd.func61, Tryd.ntmps61
      go_wp2
      go_ret
      exact ⟨by first | rfl | (rw [E]; rfl), (Below.refl _ _).alloc (Nat.le_refl _) _⟩
    · have d1 : decide (x < k) = false := by simpa using h1
      have E : decide (0 ≤ x ∧ x < k) = false := by simp [h1]
      go_enter Tryd.func61, Tryd.ntmps61
      go_wp2
      go_ret
      exact ⟨by first | rfl | (rw [E]; rfl), (Below.refl _ _).alloc (Nat.le_refl _) _⟩
  · have d0 : decide (0 ≤ x) = false := by simpa using h0
    have E : decide (0 ≤ x ∧ x < k) = false := by simp [h0]
    go_enter Tryd.func61, Tryd.ntmps61
    go_wp2
    go_ret
    exact ⟨by first | rfl | (rw [E]; rfl), (Below.refl _ _).alloc (Nat.le_refl _) _⟩

set_option maxHeartbeats 8000000 in
theorem orderI (k : Nat) (h1 : 1 ≤ k) (h3 : k ≤ 3) (st : Int) (aa ab : Option Addr) (na ca nb cb : Nat) (o : List Int) (ov : Value) (w : World) (B : Nat) (hov : Ints w B ov o) (hB : B ≤ w.heap.size) :
    Calls Tryd.prog 40 #[.agg #[.int .i64 k, .int .i64 st, .slice aa na ca, .slice ab nb cb], ov] w fun e w' => e = .returned (.bool (ordB k o)) ∧ Below w.heap.size w w' := by
  obtain ⟨ao, bo, oo, co, rfl, hmo, hao, hco⟩ := hov
  obtain ⟨n, hn⟩ : ∃ n, n = o.length := ⟨_, rfl⟩
  rw [← hn] at hmo hao hco ⊢
  have HK0 := Lib.hid (KB.new w #[.int .i64 k, .int .i64 st, .slice aa na ca, .slice ab nb cb])
  by_cases hnk : n = k
  · subst hnk
    obtain ⟨rfl, hbo⟩ := hao (by omega)
    have HHT := Lib.hid (fun x W => hasTapeI n st aa ab na ca nb cb x W)
    have HOC := Lib.hid (fun W (hb : Below w.heap.size w W) t (ht : t < n) => show W.cell? ⟨bo, oo + t, none⟩ = some (.int .i64 (o.getD t 0)) from
      (hb.cell (p := ⟨bo, oo + t, none⟩) (Nat.lt_of_lt_of_le hbo hB)).trans (hco t ht))
    have HNO := Lib.hid (fun t (ht : t ≤ n) => ord_no (o := o) h1 h3 (t := t) ht)
    have HYE := Lib.hid (ord_of_fine (o := o) h1 h3 hn.symm)
    have HK1 := Lib.hid (show KB w #[.int .i64 n, .int .i64 st, .slice aa na ca, .slice ab nb cb] ((w.alloc (.cells #[.int .i64 n, .int .i64 st, .slice aa na ca, .slice ab nb cb] 27)).alloc (.cells #[.bool false, .bool false, .bool false] 77)) from Below.alloc HK0.out (KB.size HK0.out) _)
    have HA1 := Lib.hid (heap_alloc_new (w.alloc (.cells #[.int .i64 n, .int .i64 st, .slice aa na ca, .slice ab nb cb] 27)) (.cells #[.bool false, .bool false, .bool false] 77))
    rw [size_alloc'] at HA1
    have hne : ((n : Int) != (n : Int)) = false := by simp
    clear hco hao hn
    go_enter Tryd.func40, Tryd.ntmps40
    go_wp2_with fail
    go_loopw [7, 15] (fun _ s15 wr => ∃ t : Nat, t ≤ n ∧ s15 = .int .i64 t ∧ fineB n o t = true ∧ KB w #[.int .i64 n, .int .i64 st, .slice aa na ca, .slice ab nb cb] wr ∧ wr.heap[w.heap.size + 1]? = some (.cells #[.bool (metB o t 0), .bool (metB o t 1), .bool (metB o t 2)] 77 (0, 0))) (fun _ s15 _ => n - (intOf s15).toNat)
    case atStart => exact ⟨0, Nat.zero_le _, rfl, rfl, HK1.out, HA1.out⟩
    case round =>
      obtain ⟨t, ht, rfl, hf, hk, ha⟩ := hrel
      have HK := Lib.hid hk
      have HA := Lib.hid ha
      have HFI := Lib.hid hf
      clear HK0 HK1 HA1
      by_cases hlt : t < n
      · have c0 := HOC.out _ (KB.base hk) t hlt
        have HFA := Lib.hid (fineB_far (k := n) (o := o) (t := t))
        have HFM := Lib.hid (fineB_met (k := n) (o := o) (t := t))
        have HFS := Lib.hid (fineB_step hf)
        have HMS := Lib.hid (metB_succ o t)
        have HN1 := Lib.hid (HNO.out (t + 1) hlt)
        obtain ⟨x, hx⟩ : ∃ x, x = o.getD t 0 := ⟨_, rfl⟩
        rw [← hx] at c0 HFA HFM HFS HMS
        have x0 := cells_get (KB.box hk) 0
        have x1 := cells_get (KB.box hk) 1
        have x2 := cells_get (KB.box hk) 2
        have x3 := cells_get (KB.box hk) 3
        simp at x0 x1 x2 x3
        have hlb := lt_of_block (KB.box hk)
        clear hx hf
        have HCALL := Lib.hid (HHT.out x wr)
        by_cases hr : 0 ≤ x ∧ x < n
        · rw [show decide (0 ≤ x ∧ x < (n : Int)) = true from by simpa using hr] at HCALL
          have hx3 : x = 0 ∨ x = 1 ∨ x = 2 := by omega
          obtain ⟨hr0, hr1⟩ := hr
          clear HFA
          rcases hx3 with rfl | rfl | rfl
          · cases hm : metB o t 0 with
            | true =>
              have HOF := Lib.hid (HN1.out (HFM.out hm))
              rw [hm] at ha
              have y0 := cells_get ha 0
              simp at y0
              have hla := lt_of_block ha
              clear ha hk hm
              go_wp2_with (go_at_call 61; refine HCALL.out.mono ?_; rintro e w2 ⟨rfl, hb⟩; have HB2 := Lib.hid ((KB.base HK.out).trans (hb.mono (KB.base HK.out).size)); have y1 := (hb.cell (p := ⟨w.heap.size + 1, 0, none⟩) hla).trans y0; clear hb)
              go_ret
              exact ⟨by rw [HOF.out]; rfl, HB2.out⟩
            | false =>
              have HF1 := Lib.hid (HFS.out hr0 hr1 hm)
              have HM := Lib.hid hm
              have hla := lt_of_block ha
              have HLA := Lib.hid hla
              have HA3 := Lib.hid ha
              rw [hm] at ha
              have y0 := cells_get ha 0
              simp at y0
              clear ha hk hm
              go_wp2_with (go_at_call 61; refine HCALL.out.mono ?_; rintro e w2 ⟨rfl, hb⟩; have HK2 := Lib.hid (show KB w #[.int .i64 n, .int .i64 st, .slice aa na ca, .slice ab nb cb] w2 from Below.trans HK.out (hb.mono (KB.size HK.out))); have HA2 := Lib.hid ((hb.block (w.heap.size + 1) HLA.out).trans HA3.out); have y1 := (hb.cell (p := ⟨w.heap.size + 1, 0, none⟩) hla).trans y0; have z1 := cells_free HA2.out 0; have hl2 := lt_of_block HA2.out; clear hb)
              go_roundw
              case rel =>
                have h1 := cells_set HA2.out 0 (.bool true)
                simp at h1
                refine ⟨t + 1, hlt, by go_num, HF1.out, Below.setCell HK2.out (Nat.le_refl _) _, ?_⟩
                rw [HMS.out, HMS.out, HMS.out, HM.out]
                simpa using h1
              case measure => simp [intOf]; omega
          · cases hm : metB o t 1 with
            | true =>
              have HOF := Lib.hid (HN1.out (HFM.out hm))
              rw [hm] at ha
              have y0 := cells_get ha 1
              simp at y0
              have hla := lt_of_block ha
              clear ha hk hm
              go_wp2_with (go_at_call 61; refine HCALL.out.mono ?_; rintro e w2 ⟨rfl, hb⟩; have HB2 := Lib.hid ((KB.base HK.out).trans (hb.mono (KB.base HK.out).size)); have y1 := (hb.cell (p := ⟨w.heap.size + 1, 1, none⟩) hla).trans y0; clear hb)
              go_ret
              exact ⟨by rw [HOF.out]; rfl, HB2.out⟩
            | false =>
              have HF1 := Lib.hid (HFS.out hr0 hr1 hm)
              have HM := Lib.hid hm
              have hla := lt_of_block ha
              have HLA := Lib.hid hla
              have HA3 := Lib.hid ha
              rw [hm] at ha
              have y0 := cells_get ha 1
              simp at y0
              clear ha hk hm
              go_wp2_with (go_at_call 61; refine HCALL.out.mono ?_; rintro e w2 ⟨rfl, hb⟩; have HK2 := Lib.hid (show KB w #[.int .i64 n, .int .i64 st, .slice aa na ca, .slice ab nb cb] w2 from Below.trans HK.out (hb.mono (KB.size HK.out))); have HA2 := Lib.hid ((hb.block (w.heap.size + 1) HLA.out).trans HA3.out); have y1 := (hb.cell (p := ⟨w.heap.size + 1, 1, none⟩) hla).trans y0; have z1 := cells_free HA2.out 1; have hl2 := lt_of_block HA2.out; clear hb)
              go_roundw
              case rel =>
                have h1 := cells_set HA2.out 1 (.bool true)
                simp at h1
                refine ⟨t + 1, hlt, by go_num, HF1.out, Below.setCell HK2.out (Nat.le_refl _) _, ?_⟩
                rw [HMS.out, HMS.out, HMS.out, HM.out]
                simpa using h1
              case measure => simp [intOf]; omega
          · cases hm : metB o t 2 with
            | true =>
              have HOF := Lib.hid (HN1.out (HFM.out hm))
              rw [hm] at ha
              have y0 := cells_get ha 2
              simp at y0
              have hla := lt_of_block ha
              clear ha hk hm
              go_wp2_with (go_at_call 61; refine HCALL.out.mono ?_; rintro e w2 ⟨rfl, hb⟩; have HB2 := Lib.hid ((KB.base HK.out).trans (hb.mono (KB.base HK.out).size)); have y1 := (hb.cell (p := ⟨w.heap.size + 1, 2, none⟩) hla).trans y0; clear hb)
              go_ret
              exact ⟨by rw [HOF.out]; rfl, HB2.out⟩
            | false =>
              have HF1 := Lib.hid (HFS.out hr0 hr1 hm)
              have HM := Lib.hid hm
              have hla := lt_of_block ha
              have HLA := Lib.hid hla
              have HA3 := Lib.hid ha
              rw [hm] at ha
              have y0 := cells_get ha 2
              simp at y0
              clear ha hk hm
              go_wp2_with (go_at_call 61; refine HCALL.out.mono ?_; rintro e w2 ⟨rfl, hb⟩; have HK2 := Lib.hid (show KB w #[.int .i64 n, .int .i64 st, .slice aa na ca, .slice ab nb cb] w2 from Below.trans HK.out (hb.mono (KB.size HK.out))); have HA2 := Lib.hid ((hb.block (w.heap.size + 1) HLA.out).trans HA3.out); have y1 := (hb.cell (p := ⟨w.heap.size + 1, 2, none⟩) hla).trans y0; have z1 := cells_free HA2.out 2; have hl2 := lt_of_block HA2.out; clear hb)
              go_roundw
              case rel =>
                have h1 := cells_set HA2.out 2 (.bool true)
                simp at h1
                refine ⟨t + 1, hlt, by go_num, HF1.out, Below.setCell HK2.out (Nat.le_refl _) _, ?_⟩
                rw [HMS.out, HMS.out, HMS.out, HM.out]
                simpa using h1
              case measure => simp [intOf]; omega
        · have HOF := Lib.hid (HN1.out (HFA.out hr))
          rw [show decide (0 ≤ x ∧ x < (n : Int)) = false from by simpa using hr] at HCALL
          clear hr ha hk
          go_wp2_with (go_at_call 61; refine HCALL.out.mono ?_; rintro e w2 ⟨rfl, hb⟩; have HB2 := Lib.hid ((KB.base HK.out).trans (hb.mono (KB.base HK.out).size)); clear hb)
          go_ret
          exact ⟨by rw [HOF.out]; rfl, HB2.out⟩
      · obtain rfl : t = n := by omega
        have HOT := Lib.hid (HYE.out HFI.out)
        clear ha hk hf
        go_wp2_with fail
        go_ret
        exact ⟨by rw [HOT.out]; rfl, KB.base HK.out⟩
  · have HOF := Lib.hid (ord_len (o := o) h1 h3 (by omega))
    have hne : ((n : Int) != (k : Int)) = true := by simp; omega
    clear hco hao hnk hn
    go_enter Tryd.func40, Tryd.ntmps40
    go_wp2_with fail
    go_ret
    exact ⟨by rw [HOF.out]; rfl, KB.base HK0.out⟩
end Go.Proofs.YtgaipjofhkijbaaDoor.OrdI
/- What the program's MoveTapes answers: a relation in memory of its own, and a code.
   Conditions: the relation and the list are read as XRel's text says; the type's handle lies where errors.As reads it. -/
namespace Go.Proofs.YtgaipjofhkijbaaDoor.MoveFn
set_option linter.unusedVariables false
set_option linter.unusedSimpArgs false
set_option maxRecDepth 100000
open Go.RowKit Go.Maps Mem Copy Rel Valid Heap Bld Columns ColMath SpecFiner Numbers TidyMath TidyAuto TidyRight SpecRight ToL SpecTidyRel ImplRight ImplTidied ErrCode OppImpl Automaton TapeMath Reread RereadI MoveI TapeI WithoutI AddI StepI TapeFn AddFn OrdMath OrdI

/-- The code of MoveTapes that comes first, and its automaton. -/
def moveC (r : R) (o : List Int) : Int := if okB r = true then (if ordB (toL r).k o = true then 0 else 2) else 1
def moveL (r : R) (o : List Int) : L := reL (toL r) (toL r).k (putN (o.map Int.toNat))
theorem move_bad {r : R} {o : List Int} (hok : okB r = false) : ansC (moveC r o) (moveL r o) = 1 ∧ ansK (moveC r o) (moveL r o) = 0 ∧ ansA (moveC r o) (moveL r o) = [] ∧ ansN (moveC r o) (moveL r o) = [] := by
  have e : moveC r o = 1 := by simp [moveC, hok]
  have := ans_no (moveL r o) (c := moveC r o) (by rw [e]; decide)
  rw [e] at this ⊢; exact this
theorem move_far {r : R} {o : List Int} (hok : okB r = true) (h : ordB (toL r).k o = false) : ansC (moveC r o) (moveL r o) = 2 ∧ ansK (moveC r o) (moveL r o) = 0 ∧ ansA (moveC r o) (moveL r o) = [] ∧ ansN (moveC r o) (moveL r o) = [] := by
  have e : moveC r o = 2 := by simp [moveC, hok, h]
  have := ans_no (moveL r o) (c := moveC r o) (by rw [e]; decide)
  rw [e] at this ⊢; exact this
theorem move_good {r : R} {o : List Int} (hok : okB r = true) (h : ordB (toL r).k o = true) : ansC (moveC r o) (moveL r o) = (if fewB (moveL r o) 150 = true then 0 else 3) ∧ ansK (moveC r o) (moveL r o) = fewK (moveL r o) 150 ∧ ansA (moveC r o) (moveL r o) = fewA (moveL r o) 150 ∧ ansN (moveC r o) (moveL r o) = fewN (moveL r o) 150 := by
  have e : moveC r o = 0 := by simp [moveC, hok, h]
  exact ans_yes (moveL r o) e
theorem move_mem {r : R} {o : List Int} (hok : okB r = true) (h : ordB (toL r).k o = true) : o.map Int.toNat ∈ orders (toL r).k ∧ (o.map Int.toNat).map Int.ofNat = o := (fine_of_ord (okL hok).1.2.k0 (okL hok).1.2.k3 h).2.2
theorem move_ok {r : R} {o : List Int} (hok : okB r = true) (h : ordB (toL r).k o = true) : (moveL r o).Ok := putL_ok (okL hok).1.2 (move_mem hok h).1
theorem move_k {r : R} (hok : okB r = true) : r.tapes = ((toL r).k : Int) := by
  have e := congrArg R.tapes (okL hok).1.1
  simpa [relOf] using e.symm

set_option maxHeartbeats 8000000 in
theorem implMove (v : Value) (r : R) (o : List Int) (ov : Value) (w : World) (B : Nat) (h : RelAt w B v r) (hov : Ints w B ov o) (hB : B ≤ w.heap.size) (hg : Laid w) :
    Calls Tryd.prog 16 #[v, ov] w fun e w' => ∃ va vn, e = .returned (.tuple #[.agg #[.int .i64 (ansK (moveC r o) (moveL r o)), .int .i64 0, va, vn], .int .i64 (ansC (moveC r o) (moveL r o))]) ∧ Built w' w.heap.size va vn (ansA (moveC r o) (moveL r o)) (ansN (moveC r o) (moveL r o)) ∧ Below w.heap.size w w' := by
  have HV := Lib.hid (fun W (hb : Below w.heap.size w W) => ValidImpl.implValid v r W B (h.below hb hB) (Nat.le_trans hB hb.size))
  have HGL := Lib.hid (fun W (hb : Below w.heap.size w W) => hg.below hb)
  have HIN := Lib.hid (fun (hok : okB r = true) (h2 : ordB (toL r).k o = true) W (hb : Below w.heap.size w W) => (show Calls Tryd.prog 41 #[v, ov] W (fun e w' => StepR (moveL r o) W e w') from by
    have e1 := okL hok
    have e2 := move_mem hok h2
    exact movedI (toL r) e1.1.2 (o.map Int.toNat) e2.1 v ov W W.heap.size (by rw [e1.1.1]; exact (h.below hb hB).mono (Nat.le_trans hB hb.size)) (by rw [e2.2]; exact (hov.below hb hB).mono (Nat.le_trans hB hb.size)) (Nat.le_refl _) (by have := e1.2; omega)))
  unfold StepR at HIN
  have HOR := Lib.hid (fun (hok : okB r = true) st aa ab na ca nb cb W (hb : Below w.heap.size w W) => (show Calls Tryd.prog 40 #[.agg #[.int .i64 r.tapes, .int .i64 st, .slice aa na ca, .slice ab nb cb], ov] W (fun e w' => e = .returned (.bool (ordB (toL r).k o)) ∧ Below W.heap.size W w') from by
    rw [move_k hok]
    exact orderI (toL r).k (okL hok).1.2.k0 (okL hok).1.2.k3 st aa ab na ca nb cb o ov W W.heap.size ((hov.below hb hB).mono (Nat.le_trans hB hb.size)) (Nat.le_refl _)))
  have HN1 := Lib.hid (fun (hok : okB r = false) => move_bad (o := o) hok)
  have HN2 := Lib.hid (fun (hok : okB r = true) h => move_far (r := r) (o := o) hok h)
  have HN3 := Lib.hid (fun (hok : okB r = true) h => move_good (r := r) (o := o) hok h)
  have HF := Lib.hid (few_no (moveL r o))
  obtain ⟨cC, hcC⟩ : ∃ x, x = ansC (moveC r o) (moveL r o) := ⟨_, rfl⟩
  obtain ⟨cK, hcK⟩ : ∃ x, x = ansK (moveC r o) (moveL r o) := ⟨_, rfl⟩
  obtain ⟨cA, hcA⟩ : ∃ x, x = ansA (moveC r o) (moveL r o) := ⟨_, rfl⟩
  obtain ⟨cN, hcN⟩ : ∃ x, x = ansN (moveC r o) (moveL r o) := ⟨_, rfl⟩
  rw [← hcC, ← hcK, ← hcA, ← hcN] at HN1 HN2 HN3 ⊢
  obtain ⟨L1, hL1⟩ : ∃ x, x = moveL r o := ⟨_, rfl⟩
  rw [← hL1] at HIN HN3 HF
  obtain ⟨q, hq⟩ : ∃ x, x = okB r := ⟨_, rfl⟩
  obtain ⟨qo, hqo⟩ : ∃ x, x = ordB (toL r).k o := ⟨_, rfl⟩
  rw [← hqo] at HIN HN2 HN3 HOR
  rw [← hq] at HV HIN HN1 HN2 HN3 HOR
  clear hqo hov
  clear hcC hcK hcA hcN hL1 hq hg
  obtain ⟨va, vn, rfl, ha, hx⟩ := h
  obtain ⟨aa, ba, oa, ca, rfl, -, -, -⟩ := ha
  obtain ⟨-, ⟨ab, bb, ob, cb, rfl, -, -, -⟩, -⟩ := hx
  obtain ⟨k, hk⟩ : ∃ k : Int, k = r.tapes := ⟨_, rfl⟩
  obtain ⟨st, hs⟩ : ∃ st : Int, st = r.start := ⟨_, rfl⟩
  obtain ⟨na, hna⟩ : ∃ na, na = r.accept.length := ⟨_, rfl⟩
  obtain ⟨nb, hnb⟩ : ∃ nb, nb = r.next.length := ⟨_, rfl⟩
  rw [← hk, ← hs, ← hna, ← hnb] at HV HIN
  rw [← hk] at HOR
  rw [← hk, ← hs, ← hna, ← hnb]
  have HK0 := Lib.hid (show K0 w #[.int .i64 k, .int .i64 st, .slice aa na ca, .slice ab nb cb] ((w.alloc (.cells #[.int .i64 k, .int .i64 st, .slice aa na ca, .slice ab nb cb] 27)).alloc (.cells #[Value.int .i64 0, .int .i64 0, .slice none 0 0, .slice none 0 0] 27)) from Below.refl _ _)
  have HV1 := Lib.hid (HV.out _ (K0.base HK0.out))
  clear hk hs hna hnb HV hB
  go_enter Tryd.func16, Tryd.ntmps16
  go_wp2_with fail
  refine HV1.out.mono ?_
  rintro e w3 ⟨rfl, hb3⟩
  have hk3 : K0 w #[.int .i64 k, .int .i64 st, .slice aa na ca, .slice ab nb cb] w3 := by
    have h1 := hb3
    rw [size_alloc', size_alloc'] at h1
    exact h1
  have HK3 := Lib.hid hk3
  have r0 := cells_get (K0.res hk3) 0
  have r1 := cells_get (K0.res hk3) 1
  have r2 := cells_get (K0.res hk3) 2
  have r3 := cells_get (K0.res hk3) 3
  have f0 := cells_free (K0.res hk3) 0
  have f1 := cells_free (K0.res hk3) 1
  have f2 := cells_free (K0.res hk3) 2
  have f3 := cells_free (K0.res hk3) 3
  have hlS := lt_of_block (K0.res hk3)
  have x0 := cells_get (K0.box hk3) 0
  have x1 := cells_get (K0.box hk3) 1
  have x2 := cells_get (K0.box hk3) 2
  have x3 := cells_get (K0.box hk3) 3
  simp at r0 r1 r2 r3 x0 x1 x2 x3
  clear hb3 hk3 HV1 HK0
  cases q with
  | false =>
    have HNO := Lib.hid (HN1.out rfl)
    clear HN1 HN2 HN3 HIN HF HGL HOR
    obtain ⟨rfl, rfl, rfl, rfl⟩ := HNO.out
    go_wp2_with fail
    obtain ⟨g0, g1, g2, g3⟩ := res4 (a := .int .i64 0) (b := .int .i64 0) (c := .slice none 0 0) (d := .slice none 0 0) (K0.res HK3.out)
    refine bodyPost_ret (v := .tuple #[.agg #[.int .i64 0, .int .i64 0, .slice none 0 0, .slice none 0 0], .int .i64 1]) (by simp [results, Tryd.results16, go_sem, g0, g1, g2, g3]) rfl ⟨.slice none 0 0, .slice none 0 0, rfl, ImplTidied.built_none _ _, ?_⟩
    exact set4_below (K0.base HK3.out) (Nat.le_succ _)
  | true =>
    have HO3 := Lib.hid (HOR.out rfl st aa ab na ca nb cb w3 (K0.base HK3.out))
    go_wp2_with fail
    refine HO3.out.mono ?_
    rintro e w6 ⟨rfl, hb6⟩
    have hk6 := k0_step HK3.out hb6
    have HK6 := Lib.hid hk6
    clear r0 r1 r2 r3 f0 f1 f2 f3 hlS x0 x1 x2 x3
    have r0 := cells_get (K0.res hk6) 0
    have r1 := cells_get (K0.res hk6) 1
    have r2 := cells_get (K0.res hk6) 2
    have r3 := cells_get (K0.res hk6) 3
    have f0 := cells_free (K0.res hk6) 0
    have f1 := cells_free (K0.res hk6) 1
    have f2 := cells_free (K0.res hk6) 2
    have f3 := cells_free (K0.res hk6) 3
    have hlS := lt_of_block (K0.res hk6)
    have x0 := cells_get (K0.box hk6) 0
    have x1 := cells_get (K0.box hk6) 1
    have x2 := cells_get (K0.box hk6) 2
    have x3 := cells_get (K0.box hk6) 3
    simp at r0 r1 r2 r3 x0 x1 x2 x3
    clear hk6 hb6 HO3 HOR
    by_cases h2 : qo = true
    · have HYE := Lib.hid (HN3.out (by trivial) h2)
      have HI3 := Lib.hid (HIN.out (by trivial) h2 w6 (K0.base HK6.out))
      clear HN1 HN2 HN3 HIN
      subst h2
      obtain ⟨eC, eK, eA, eN⟩ := HYE.out
      rw [← eK, ← eA, ← eN] at HI3 HF
      obtain ⟨Q, hQ⟩ : ∃ Q, Q = fewB L1 150 := ⟨_, rfl⟩
      rw [← hQ] at HI3 HF eC
      have HEC := Lib.hid eC
      clear hQ eC eK eA eN HYE
      go_wp2_with fail
      refine HI3.out.mono ?_
      rintro e w4 ⟨va, vn, rfl, hbu, hb4⟩
      obtain ⟨a4, n4, c4, rfl, -⟩ := hbu.acc.shape'
      obtain ⟨items4, -, hnx4, -⟩ := hbu.rows
      obtain ⟨b4, m4, d4, rfl, -⟩ := hnx4.shape'
      have HK4 := Lib.hid (show K0 w #[.int .i64 k, .int .i64 st, .slice aa na ca, .slice ab nb cb] w4 from Below.trans HK6.out (hb4.mono (K0.size HK6.out)))
      have HO := Lib.hid (outcomeI Q cK a4 b4 n4 c4 m4 d4 150 w4 (HGL.out _ (K0.base HK4.out)) w6.heap.size cA cN hbu HF.out)
      rw [← HEC.out] at HO
      clear hbu hb4 hnx4 HI3 HF HGL HEC r0 r1 r2 r3 f0 f1 f2 f3 hlS x0 x1 x2 x3
      go_wp2_with fail
      refine HO.out.mono ?_
      rintro e w5 ⟨va, vn, rfl, hbu, hb5⟩
      have HBU := Lib.hid (show Built w5 (w.heap.size + 2) va vn cA cN from hbu.mono (K0.size HK6.out))
      obtain ⟨a4, n4, c4, rfl, -⟩ := hbu.acc.shape'
      obtain ⟨items4, -, hnx4, -⟩ := hbu.rows
      obtain ⟨b4, m4, d4, rfl, -⟩ := hnx4.shape'
      have hk3 : K0 w #[.int .i64 k, .int .i64 st, .slice aa na ca, .slice ab nb cb] w5 := Below.trans HK4.out (hb5.mono (K0.size HK4.out))
      have HK5 := Lib.hid hk3
      have r0 := cells_get (K0.res hk3) 0
      have r1 := cells_get (K0.res hk3) 1
      have r2 := cells_get (K0.res hk3) 2
      have r3 := cells_get (K0.res hk3) 3
      have f0 := cells_free (K0.res hk3) 0
      have f1 := cells_free (K0.res hk3) 1
      have f2 := cells_free (K0.res hk3) 2
      have f3 := cells_free (K0.res hk3) 3
      have hlS := lt_of_block (K0.res hk3)
      have x0 := cells_get (K0.box hk3) 0
      have x1 := cells_get (K0.box hk3) 1
      have x2 := cells_get (K0.box hk3) 2
      have x3 := cells_get (K0.box hk3) 3
      simp at r0 r1 r2 r3 x0 x1 x2 x3
      clear hbu hb5 hnx4 HO hk3
      go_wp2_with fail
      obtain ⟨g0, g1, g2, g3⟩ := res4 (a := .int .i64 cK) (b := .int .i64 0) (c := .slice a4 n4 c4) (d := .slice b4 m4 d4) (K0.res HK5.out)
      refine bodyPost_ret (v := .tuple #[.agg #[.int .i64 cK, .int .i64 0, .slice a4 n4 c4, .slice b4 m4 d4], .int .i64 cC]) (by simp [results, Tryd.results16, go_sem, g0, g1, g2, g3]) rfl ⟨.slice a4 n4 c4, .slice b4 m4 d4, rfl, ?_, ?_⟩
      · exact (set4_built HBU.out (by omega)).mono (by omega)
      · exact set4_below (K0.base HK5.out) (Nat.le_succ _)
    · obtain rfl : qo = false := by simpa using h2
      have HNO := Lib.hid (HN2.out (by trivial) (by trivial))
      clear HN1 HN2 HN3 HIN HF HGL
      obtain ⟨rfl, rfl, rfl, rfl⟩ := HNO.out
      go_wp2_with fail
      obtain ⟨g0, g1, g2, g3⟩ := res4 (a := .int .i64 0) (b := .int .i64 0) (c := .slice none 0 0) (d := .slice none 0 0) (K0.res HK6.out)
      refine bodyPost_ret (v := .tuple #[.agg #[.int .i64 0, .int .i64 0, .slice none 0 0, .slice none 0 0], .int .i64 2]) (by simp [results, Tryd.results16, go_sem, g0, g1, g2, g3]) rfl ⟨.slice none 0 0, .slice none 0 0, rfl, ImplTidied.built_none _ _, ?_⟩
      exact set4_below (K0.base HK6.out) (Nat.le_succ _)
end Go.Proofs.YtgaipjofhkijbaaDoor.MoveFn
