
/- What the program's ProductOf hands back.
   Conditions: the relations are read as XRel's text says; the type's handle lies where errors.As reads it. -/
import Derived.Test.YtaimealknkhfbaaDoorProdI
namespace Go.Proofs.YtaimealknkhfbaaDoor.ProdFn
set_option linter.unusedVariables false
set_option linter.unusedSimpArgs false
set_option linter.ambiguousOpen false
set_option maxRecDepth 100000
open Go.RowKit Mem Copy Rel Valid Heap Bld Columns TidyMath TidyAuto TidyRight SpecFiner SpecRight ToL SpecTidyRel ImplRight ImplTidied ErrCode OppImpl PairMath PairsI JoinI StepI ProdMath ProdI

/-- The code of two relations that are to be put side by side. -/
def prodC (r s : R) : Int := if okB r = true then (if okB s = true then (if r.tapes + s.tapes ≤ 3 then 0 else 2) else 1) else 1
def prodL (r s : R) : L := grow true (toL r) (toL s).k
def prodM (r s : R) : L := grow false (toL s) (toL r).k
noncomputable def prodQ (r s : R) : Bool := joinB and2 (prodL r s) (prodM r s)
noncomputable def prodV (r s : R) : Int := if prodC r s = 0 then (if prodQ r s = true then 0 else 3) else prodC r s
noncomputable def prodK (r s : R) : Int := if prodC r s = 0 then joinK and2 (prodL r s) (prodM r s) else 0
noncomputable def prodA (r s : R) : List Bool := if prodC r s = 0 then joinA and2 (prodL r s) (prodM r s) else []
noncomputable def prodN (r s : R) : List (List Int) := if prodC r s = 0 then joinN and2 (prodL r s) (prodM r s) else []
theorem prod_yes {r s : R} (h : prodC r s = 0) : prodK r s = joinK and2 (prodL r s) (prodM r s) ∧ prodA r s = joinA and2 (prodL r s) (prodM r s) ∧ prodN r s = joinN and2 (prodL r s) (prodM r s) ∧ prodV r s = if prodQ r s = true then 0 else 3 := ⟨if_pos h, if_pos h, if_pos h, if_pos h⟩
theorem prod_no {r s : R} (h : prodC r s ≠ 0) : prodK r s = 0 ∧ prodA r s = [] ∧ prodN r s = [] ∧ prodV r s = prodC r s := ⟨if_neg h, if_neg h, if_neg h, if_neg h⟩
theorem okT {r : R} (h : okB r = true) : ((toL r).k : Int) = r.tapes ∧ 1 ≤ r.tapes ∧ r.tapes ≤ 3 := by
  have h1 := okL h
  have h2 := h1.1.2.k0
  have h3 := h1.1.2.k3
  have e : r.tapes = ((toL r).k : Int) := by
    have := congrArg R.tapes h1.1.1
    exact this.symm
  omega
theorem prod_of {r s : R} (h : prodC r s = 0) : okB r = true ∧ okB s = true ∧ (toL r).k + (toL s).k ≤ 3 := by
  unfold prodC at h
  by_cases h1 : okB r = true
  · rw [if_pos h1] at h
    by_cases h2 : okB s = true
    · rw [if_pos h2] at h
      by_cases h3 : r.tapes + s.tapes ≤ 3
      · have := okT h1; have := okT h2
        exact ⟨h1, h2, by omega⟩
      · rw [if_neg h3] at h; omega
    · rw [if_neg h2] at h; omega
  · rw [if_neg h1] at h; omega
theorem prod_code {r s : R} (h1 : okB r = true) (h2 : okB s = true) : prodC r s = if r.tapes + s.tapes ≤ 3 then 0 else 2 := by unfold prodC; rw [if_pos h1, if_pos h2]

set_option maxHeartbeats 16000000 in
theorem implProd (v u : Value) (r s : R) (w : World) (B : Nat) (h : RelAt w B v r) (h' : RelAt w B u s) (hB : B ≤ w.heap.size) (hg : Laid w) :
    Calls Tryd.prog 7 #[v, u] w fun e w' => ∃ va vn, e = .returned (.tuple #[.agg #[.int .i64 (prodK r s), .int .i64 0, va, vn], .int .i64 (prodV r s)]) ∧ Built w' w.heap.size va vn (prodA r s) (prodN r s) ∧ Below w.heap.size w w' := by
  have HV1 := Lib.hid (fun W (hb : Below w.heap.size w W) => ValidImpl.implValid v r W B (h.below hb hB) (Nat.le_trans hB hb.size))
  have HV2 := Lib.hid (fun W (hb : Below w.heap.size w W) => ValidImpl.implValid u s W B (h'.below hb hB) (Nat.le_trans hB hb.size))
  have HPR := Lib.hid (fun (h0 : prodC r s = 0) W (hb : Below w.heap.size w W) => show Calls Tryd.prog 21 #[v, u] W fun e w' => ∃ va vn, ∃ n : Int, e = .returned (.tuple #[.agg #[.int .i64 (prodK r s), .int .i64 0, va, vn], errV (prodQ r s) n]) ∧ Built w' W.heap.size va vn (prodA r s) (prodN r s) ∧ Below W.heap.size W w' from by
    obtain ⟨h1, h2, h3⟩ := prod_of h0
    have e1 := okL h1
    have e2 := okL h2
    have hs := Nat.le_trans hB hb.size
    have := productI (toL r) (toL s) e1.1.2 e2.1.2 h3 (by omega) (by omega) v u W (by rw [e1.1.1]; exact (h.below hb hB).mono hs) (by rw [e2.1.1]; exact (h'.below hb hB).mono hs)
    rw [(prod_yes h0).1, (prod_yes h0).2.1, (prod_yes h0).2.2.1]
    exact this)
  have HGL := Lib.hid (fun W (hb : Below w.heap.size w W) => hg.below hb)
  have HE1 := Lib.hid (show okB r = false → prodC r s = 1 from fun h => by simp [prodC, h])
  have HE2 := Lib.hid (show okB s = false → prodC r s = 1 from fun h => by unfold prodC; split <;> simp [h])
  have HE3 := Lib.hid (show okB r = true → okB s = true → prodC r s = if r.tapes + s.tapes ≤ 3 then 0 else 2 from fun h h2 => prod_code h h2)
  have HT1 := Lib.hid (show okB r = true → 1 ≤ r.tapes ∧ r.tapes ≤ 3 from fun h => (okT h).2)
  have HT2 := Lib.hid (show okB s = true → 1 ≤ s.tapes ∧ s.tapes ≤ 3 from fun h => (okT h).2)
  have HN0 := Lib.hid (fun h0 : prodC r s ≠ 0 => prod_no h0)
  have HCC := Lib.hid (fun h0 : prodC r s = 0 => (prod_yes h0).2.2.2)
  have HQ0 := Lib.hid (fun (h0 : prodC r s = 0) (hq : prodQ r s = false) => show prodK r s = 0 ∧ prodA r s = [] ∧ prodN r s = [] from by
    rw [(prod_yes h0).1, (prod_yes h0).2.1, (prod_yes h0).2.2.1]
    exact join_no hq)
  obtain ⟨Q, hQ⟩ : ∃ x, x = prodQ r s := ⟨_, rfl⟩
  obtain ⟨K, hK⟩ : ∃ x, x = prodK r s := ⟨_, rfl⟩
  obtain ⟨A, hA⟩ : ∃ x, x = prodA r s := ⟨_, rfl⟩
  obtain ⟨N, hN⟩ : ∃ x, x = prodN r s := ⟨_, rfl⟩
  obtain ⟨C, hC⟩ : ∃ x, x = prodV r s := ⟨_, rfl⟩
  obtain ⟨D, hD⟩ : ∃ x, x = prodC r s := ⟨_, rfl⟩
  obtain ⟨q1, hq1⟩ : ∃ x, x = okB r := ⟨_, rfl⟩
  obtain ⟨q2, hq2⟩ : ∃ x, x = okB s := ⟨_, rfl⟩
  rw [← hD] at HE1 HE2 HE3 HN0 HCC HQ0 HPR
  rw [← hQ] at HCC HQ0 HPR
  rw [← hK, ← hA, ← hN] at HN0 HQ0 HPR
  rw [← hC] at HN0 HCC 
  rw [← hq1] at HE1 HE3 HT1 HV1
  rw [← hq2] at HE2 HE3 HT2 HV2
  rw [← hK, ← hA, ← hN, ← hC]
  clear hQ hK hA hN hC hD hq1 hq2
  clear hg
  obtain ⟨va, vn, rfl, ha, hn⟩ := h
  obtain ⟨aa1, ba, oa, ca1, rfl, -, -, -⟩ := ha
  obtain ⟨-, ⟨ab1, bb, ob, cb1, rfl, -, -, -⟩, -⟩ := hn
  obtain ⟨va, vn, rfl, ha, hn⟩ := h'
  obtain ⟨aa2, ba, oa, ca2, rfl, -, -, -⟩ := ha
  obtain ⟨-, ⟨ab2, bb, ob, cb2, rfl, -, -, -⟩, -⟩ := hn
  obtain ⟨k1, hk⟩ : ∃ x, x = r.tapes := ⟨_, rfl⟩
  obtain ⟨st1, hst⟩ : ∃ x, x = r.start := ⟨_, rfl⟩
  obtain ⟨na1, hna⟩ : ∃ x, x = r.accept.length := ⟨_, rfl⟩
  obtain ⟨nb1, hnb⟩ : ∃ x, x = r.next.length := ⟨_, rfl⟩
  rw [← hk, ← hst, ← hna, ← hnb] at HV1
  rw [← hk, ← hst, ← hna, ← hnb] at HPR
  rw [← hk] at HE3 HT1
  rw [← hk, ← hst, ← hna, ← hnb]
  clear hk hst hna hnb
  obtain ⟨k2, hk⟩ : ∃ x, x = s.tapes := ⟨_, rfl⟩
  obtain ⟨st2, hst⟩ : ∃ x, x = s.start := ⟨_, rfl⟩
  obtain ⟨na2, hna⟩ : ∃ x, x = s.accept.length := ⟨_, rfl⟩
  obtain ⟨nb2, hnb⟩ : ∃ x, x = s.next.length := ⟨_, rfl⟩
  rw [← hk, ← hst, ← hna, ← hnb] at HV2
  rw [← hk, ← hst, ← hna, ← hnb] at HPR
  rw [← hk] at HE3 HT2
  rw [← hk, ← hst, ← hna, ← hnb]
  clear hk hst hna hnb
  have HK0 := Lib.hid (show K3 w #[.int .i64 k1, .int .i64 st1, .slice aa1 na1 ca1, .slice ab1 nb1 cb1] #[.int .i64 k2, .int .i64 st2, .slice aa2 na2 ca2, .slice ab2 nb2 cb2] (((w.alloc (.cells #[.int .i64 k1, .int .i64 st1, .slice aa1 na1 ca1, .slice ab1 nb1 cb1] 27)).alloc (.cells #[.int .i64 k2, .int .i64 st2, .slice aa2 na2 ca2, .slice ab2 nb2 cb2] 27)).alloc (.cells #[Value.int .i64 0, .int .i64 0, .slice none 0 0, .slice none 0 0] 27)) from Below.refl _ _)
  have HST := Lib.hid (fun W W' (h : K3 w #[.int .i64 k1, .int .i64 st1, .slice aa1 na1 ca1, .slice ab1 nb1 cb1] #[.int .i64 k2, .int .i64 st2, .slice aa2 na2 ca2, .slice ab2 nb2 cb2] W) (hb : Below W.heap.size W W') => (show K3 w #[.int .i64 k1, .int .i64 st1, .slice aa1 na1 ca1, .slice ab1 nb1 cb1] #[.int .i64 k2, .int .i64 st2, .slice aa2 na2 ca2, .slice ab2 nb2 cb2] W' from Below.trans h (hb.mono (K3.size h))))
  have HC1 := Lib.hid (HV1.out _ (K3.base HK0.out))
  clear HV1 hB
  go_enter Tryd.func7, Tryd.ntmps7
  go_wp2_with fail
  refine HC1.out.mono ?_
  rintro e w3 ⟨rfl, hb3⟩
  have HK3 := Lib.hid (HST.out _ _ HK0.out hb3)
  clear hb3 HC1 HK0
  have x0 := cells_get (K3.box1 HK3.out) 0
  have x1 := cells_get (K3.box1 HK3.out) 1
  have x2 := cells_get (K3.box1 HK3.out) 2
  have x3 := cells_get (K3.box1 HK3.out) 3
  have y0 := cells_get (K3.box2 HK3.out) 0
  have y1 := cells_get (K3.box2 HK3.out) 1
  have y2 := cells_get (K3.box2 HK3.out) 2
  have y3 := cells_get (K3.box2 HK3.out) 3
  have r0 := cells_get (K3.res HK3.out) 0
  have r1 := cells_get (K3.res HK3.out) 1
  have r2 := cells_get (K3.res HK3.out) 2
  have r3 := cells_get (K3.res HK3.out) 3
  simp at x0 x1 x2 x3 y0 y1 y2 y3 r0 r1 r2 r3
  have lx := lt_of_block (K3.box1 HK3.out)
  have ly := lt_of_block (K3.box2 HK3.out)
  have lr := lt_of_block (K3.res HK3.out)
  have f0 := cells_free (K3.res HK3.out) 0
  have f1 := cells_free (K3.res HK3.out) 1
  have f2 := cells_free (K3.res HK3.out) 2
  have f3 := cells_free (K3.res HK3.out) 3
  cases q1 with
  | false =>
    obtain rfl := HE1.out rfl
    obtain ⟨rfl, rfl, rfl, rfl⟩ := HN0.out (by decide)
    clear HE1 HE2 HE3 HN0 HCC HQ0 HPR HGL HT1 HT2 HV2
    go_wp2_with fail
    obtain ⟨g0, g1, g2, g3⟩ := res4 (a := .int .i64 0) (b := .int .i64 0) (c := .slice none 0 0) (d := .slice none 0 0) (K3.res HK3.out)
    refine bodyPost_ret (v := .tuple #[.agg #[.int .i64 0, .int .i64 0, .slice none 0 0, .slice none 0 0], .int .i64 1]) (by simp [results, Tryd.results7, go_sem, g0, g1, g2, g3]) rfl ⟨.slice none 0 0, .slice none 0 0, rfl, ImplTidied.built_none _ _, ?_⟩
    exact set4_below (K3.base HK3.out) (by omega)
  | true =>
    have HC2 := Lib.hid (HV2.out w3 (K3.base HK3.out))
    clear HV2 HE1
    go_wp2_with fail
    refine HC2.out.mono ?_
    rintro e w4 ⟨rfl, hb4⟩
    have HK4 := Lib.hid (HST.out _ _ HK3.out hb4)
    clear hb4 HC2 HK3 x0 x1 x2 x3 y0 y1 y2 y3 r0 r1 r2 r3 f0 f1 f2 f3 lx ly lr
    have x0 := cells_get (K3.box1 HK4.out) 0
    have x1 := cells_get (K3.box1 HK4.out) 1
    have x2 := cells_get (K3.box1 HK4.out) 2
    have x3 := cells_get (K3.box1 HK4.out) 3
    have y0 := cells_get (K3.box2 HK4.out) 0
    have y1 := cells_get (K3.box2 HK4.out) 1
    have y2 := cells_get (K3.box2 HK4.out) 2
    have y3 := cells_get (K3.box2 HK4.out) 3
    have r0 := cells_get (K3.res HK4.out) 0
    have r1 := cells_get (K3.res HK4.out) 1
    have r2 := cells_get (K3.res HK4.out) 2
    have r3 := cells_get (K3.res HK4.out) 3
    simp at x0 x1 x2 x3 y0 y1 y2 y3 r0 r1 r2 r3
    have lx := lt_of_block (K3.box1 HK4.out)
    have ly := lt_of_block (K3.box2 HK4.out)
    have lr := lt_of_block (K3.res HK4.out)
    have f0 := cells_free (K3.res HK4.out) 0
    have f1 := cells_free (K3.res HK4.out) 1
    have f2 := cells_free (K3.res HK4.out) 2
    have f3 := cells_free (K3.res HK4.out) 3
    cases q2 with
    | false =>
      obtain rfl := HE2.out rfl
      obtain ⟨rfl, rfl, rfl, rfl⟩ := HN0.out (by decide)
      clear HE2 HE3 HN0 HCC HQ0 HPR HGL HT1 HT2
      go_wp2_with fail
      obtain ⟨g0, g1, g2, g3⟩ := res4 (a := .int .i64 0) (b := .int .i64 0) (c := .slice none 0 0) (d := .slice none 0 0) (K3.res HK4.out)
      refine bodyPost_ret (v := .tuple #[.agg #[.int .i64 0, .int .i64 0, .slice none 0 0, .slice none 0 0], .int .i64 1]) (by simp [results, Tryd.results7, go_sem, g0, g1, g2, g3]) rfl ⟨.slice none 0 0, .slice none 0 0, rfl, ImplTidied.built_none _ _, ?_⟩
      exact set4_below (K3.base HK4.out) (by omega)
    | true =>
      obtain ⟨t1, t2⟩ := HT1.out (by trivial)
      obtain ⟨t3, t4⟩ := HT2.out (by trivial)
      have HD := Lib.hid (HE3.out (by trivial) (by trivial))
      have hwr : IntKind.i64.wrap (k1 + k2) = k1 + k2 := by rw [IntKind.wrap_i64]; omega
      clear HE2 HE3 HT1 HT2
      by_cases hle : k1 + k2 ≤ 3
      · have h0 : D = 0 := by rw [HD.out, if_pos hle]
        have HC3 := Lib.hid (HPR.out h0 w4 (K3.base HK4.out))
        have HCD := Lib.hid (HCC.out h0)
        have HQD := Lib.hid (HQ0.out h0)
        have hgt : decide (k1 + k2 > 3) = false := decide_eq_false (by omega)
        have hgt' : decide (3 < k1 + k2) = false := decide_eq_false (by omega)
        clear HPR HCC HQ0 HN0 HD h0
        go_wp2_with fail
        refine HC3.out.mono ?_
        rintro e w5 ⟨va, vn, n, rfl, hbu, hb5⟩
        have HK5 := Lib.hid (HST.out _ _ HK4.out hb5)
        obtain ⟨a5, n5, c5, rfl, -⟩ := hbu.acc.shape'
        obtain ⟨items0, -, hnx0, -⟩ := hbu.rows
        obtain ⟨b5, m5, d5, rfl, -⟩ := hnx0.shape'
        have HO := Lib.hid (OppImpl.outcomeI Q K a5 b5 n5 c5 m5 d5 n w5 (HGL.out _ (K3.base HK5.out)) (w.heap.size + 3) A N (hbu.mono (K3.size HK4.out)) HQD.out)
        rw [← HCD.out] at HO
        clear hbu hb5 hnx0 HC3 HGL HQD HCD x0 x1 x2 x3 y0 y1 y2 y3 r0 r1 r2 r3 f0 f1 f2 f3 lx ly lr HK4
        go_wp2_with fail
        refine HO.out.mono ?_
        rintro e w6 ⟨va, vn, rfl, hbu, hb6⟩
        have HK6 := Lib.hid (HST.out _ _ HK5.out hb6)
        have HBU := Lib.hid hbu
        obtain ⟨a6, n6, c6, rfl, -⟩ := hbu.acc.shape'
        obtain ⟨items1, -, hnx1, -⟩ := hbu.rows
        obtain ⟨b6, m6, d6, rfl, -⟩ := hnx1.shape'
        clear hbu hb6 hnx1 HO HK5
        have r0 := cells_get (K3.res HK6.out) 0
        have r1 := cells_get (K3.res HK6.out) 1
        have r2 := cells_get (K3.res HK6.out) 2
        have r3 := cells_get (K3.res HK6.out) 3
        simp at r0 r1 r2 r3
        have lr := lt_of_block (K3.res HK6.out)
        have f0 := cells_free (K3.res HK6.out) 0
        have f1 := cells_free (K3.res HK6.out) 1
        have f2 := cells_free (K3.res HK6.out) 2
        have f3 := cells_free (K3.res HK6.out) 3
        go_wp2_with fail
        obtain ⟨g0, g1, g2, g3⟩ := res4 (a := .int .i64 K) (b := .int .i64 0) (c := .slice a6 n6 c6) (d := .slice b6 m6 d6) (K3.res HK6.out)
        refine bodyPost_ret (v := .tuple #[.agg #[.int .i64 K, .int .i64 0, .slice a6 n6 c6, .slice b6 m6 d6], .int .i64 C]) (by simp [results, Tryd.results7, go_sem, g0, g1, g2, g3]) rfl ⟨.slice a6 n6 c6, .slice b6 m6 d6, rfl, (set4_built HBU.out (by omega)).mono (by omega), ?_⟩
        exact set4_below (K3.base HK6.out) (by omega)
      · have h0 : D = 2 := by rw [HD.out, if_neg hle]
        subst h0
        obtain ⟨rfl, rfl, rfl, rfl⟩ := HN0.out (by decide)
        have hgt : decide (k1 + k2 > 3) = true := decide_eq_true (by omega)
        have hgt' : decide (3 < k1 + k2) = true := decide_eq_true (by omega)
        clear HPR HCC HQ0 HN0 HD HGL
        go_wp2_with fail
        obtain ⟨g0, g1, g2, g3⟩ := res4 (a := .int .i64 0) (b := .int .i64 0) (c := .slice none 0 0) (d := .slice none 0 0) (K3.res HK4.out)
        refine bodyPost_ret (v := .tuple #[.agg #[.int .i64 0, .int .i64 0, .slice none 0 0, .slice none 0 0], .int .i64 2]) (by simp [results, Tryd.results7, go_sem, g0, g1, g2, g3]) rfl ⟨.slice none 0 0, .slice none 0 0, rfl, ImplTidied.built_none _ _, ?_⟩
        exact set4_below (K3.base HK4.out) (by omega)
end Go.Proofs.YtaimealknkhfbaaDoor.ProdFn
