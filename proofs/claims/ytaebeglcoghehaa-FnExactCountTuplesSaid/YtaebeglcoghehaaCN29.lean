
/- How many tuples have just so many columns: what is asked, and what the program's CountTuples answers.
   Conditions: the relation is read as XMem's text says. -/
import Derived.Test.YtaebeglcoghehaaCN28
import Derived.Test.YtaebeglcoghehaaCN12
import Derived.Test.YtaebeglcoghehaaCN13
import Derived.Test.YtaebeglcoghehaaCN21
import Derived.Deep.RegionWith
import Derived.Test.YtaebeglcoghehaaCN6
import Derived.Test.YtaebeglcoghehaaCN20
import Derived.Test.YtaebeglcoghehaaCN27
import Derived.Test.YtaebeglcoghehaaCN22
namespace Go.Proofs.Ytaebeglcoghehaa.CntTup
set_option linter.unusedVariables false
set_option linter.unusedSimpArgs false
set_option linter.ambiguousOpen false
set_option maxRecDepth 100000
open Go.RowKit Mem Copy Rel Valid Heap Columns Bld ToL SpecTidyRel TidyMath TidyClass TidyAuto TidyRight SpecFiner SpecRight PairMath CntMath CntI Box1

def cntC (r : R) (x : Int) : Int := if okB r = true then (if 0 ≤ x ∧ x ≤ 18 then 0 else 2) else 1
def cntV (r : R) (x : Int) : Int := if cntC r x = 0 then ((cntA (auL (tidL (toL r))) x.toNat 0 : Nat) : Int) else 0

/-- A cell of a table. -/
theorem tab_cell {w : World} {B : Nat} {vn : Value} {rows : List (List Int)} (h : Built w B (.slice none 0 0) vn [] rows) {j i : Nat} (hj : j < rows.length) (hi : i < (rows.getD j []).length) :
    ∃ g cap gr cr, vn = .slice (some ⟨g, 0, none⟩) rows.length cap ∧ g < w.heap.size ∧ w.cell? ⟨g, j, none⟩ = some (.slice (some ⟨gr, 0, none⟩) (rows.getD j []).length cr) ∧ gr < w.heap.size ∧ w.cell? ⟨gr, i, none⟩ = some (.int .i64 ((rows.getD j []).getD i 0)) := by
  obtain ⟨items, h1, h2, h3⟩ := h.rows
  have hil : items.length = rows.length := by
    have := congrArg List.length h3
    simpa using this
  have hji : j < items.length := by rw [hil]; exact hj
  obtain ⟨g, cap, hv, hg, hc, -⟩ := h2.view (by rw [List.length_map]; omega)
  rw [List.length_map, hil] at hv
  have e2 : items[j].2 = (rows.getD j []).map (Value.int .i64) := by
    have h5 := congrArg (fun x => x[j]?) h3
    simp [hji, hj] at h5
    rw [h5]
    simp [List.getD, hj]
  have hl := h1.lst items[j] (List.getElem_mem hji)
  rw [e2] at hl
  obtain ⟨gr, cr, hvr, hgr, hcr, -⟩ := hl.view (by rw [List.length_map]; omega)
  rw [List.length_map] at hvr
  refine ⟨g, cap, gr, cr, hv, hg, ?_, hgr, ?_⟩
  · rw [hc j (by rw [List.length_map]; omega), List.getElem_map, hvr]
  · rw [hcr i (by rw [List.length_map]; omega), List.getElem_map, List.getD_eq_getElem?_getD (l := rows.getD j []), List.getElem?_eq_getElem hi]; rfl

theorem cntA_congr {A C : Au} (h1 : A.acc = C.acc) (h2 : A.nx = C.nx) : cntA A = cntA C := by
  cases A with
  | mk n a x =>
    cases C with
    | mk n' a' x' =>
      simp only at h1 h2
      subst h1; subst h2
      funext j
      induction j with
      | zero => rfl
      | succ j ih =>
        funext s
        show sumN ((x s).map _) = sumN ((x s).map _)
        rw [ih]
theorem accP_len (l : L) : (accP l).length = (F l).length + 1 := by simp [accP]
theorem nxP_len (l : L) : (nxP l).length = (F l).length + 1 := by simp [nxP]
theorem nxP_row {l : L} (h : l.Ok) {p : Nat} (hp : p < (accP l).length) : ((nxP l).getD p []).length = wide l.k ∧ ∀ c, c < wide l.k → ((nxP l).getD p []).getD c 0 < (accP l).length := by
  rw [accP_len] at hp ⊢
  have t := twin h
  have hp' : p < (auM l).n := hp
  have e : (nxP l).getD p [] = ((auM l).nx (τ l p)).map (σ l) := t.nx p hp'
  have hr := auM_row h (t.fl p hp')
  rw [e]
  refine ⟨by rw [List.length_map, hr], fun c hc => ?_⟩
  have hc' : c < ((auM l).nx (τ l p)).length := by rw [hr]; exact hc
  have : (((auM l).nx (τ l p)).map (σ l)).getD c 0 = σ l (((auM l).nx (τ l p))[c]) := by
    rw [List.getD_eq_getElem?_getD, List.getElem?_map, List.getElem?_eq_getElem hc']; rfl
  rw [this]
  exact t.gl _ ((fits h).2 _ (t.fl p hp') _ (List.getElem_mem hc'))

set_option maxHeartbeats 8000000 in
theorem countI (v : Value) (r : R) (x : Int) (w : World) (B : Nat) (h : RelAt w B v r) (hB : B ≤ w.heap.size) :
    Calls Try.prog 17 #[v, .int .i64 x] w fun e w' => e = .returned (.tuple #[.int .i64 (cntV r x), .int .i64 (cntC r x)]) ∧ Below w.heap.size w w' := by
  have HV1 := Lib.hid (fun W (hb : Below w.heap.size w W) => ValidImpl.implValid v r W B (h.below hb hB) (Nat.le_trans hB hb.size))
  have HE0 := Lib.hid (show okB r = false → cntV r x = 0 ∧ cntC r x = 1 from fun h => by simp [cntV, cntC, h])
  have HE1 := Lib.hid (show okB r = true → ¬ (0 ≤ x ∧ x ≤ 18) → cntV r x = 0 ∧ cntC r x = 2 from fun h h2 => by
    have e : cntC r x = 2 := by unfold cntC; rw [if_pos h, if_neg h2]
    exact ⟨by unfold cntV; rw [e]; rfl, e⟩)
  have HE2 := Lib.hid (show okB r = true → 0 ≤ x ∧ x ≤ 18 → cntC r x = 0 ∧ cntV r x = ((cntA (auP (toL r)) x.toNat 1 : Nat) : Int) from fun h h2 => by
    have e : cntC r x = 0 := by unfold cntC; rw [if_pos h, if_pos h2]
    refine ⟨e, ?_⟩
    unfold cntV
    rw [if_pos e, cnt_same (okL h).1.2])
  have HRP := Lib.hid (fun (h0 : okB r = true) W (hb : Below w.heap.size w W) => ImplRight.rightPart (toL r) (okL h0).1.2 v W W.heap.size (by rw [(okL h0).1.1]; exact (h.below hb hB).mono (Nat.le_trans hB hb.size)) (Nat.le_refl _) (by have := (okL h0).2; omega))
  have HLC := Lib.hid (fun (h0 : okB r = true) (m : Nat) (hm : m ≤ 18) W u (hu : RelAt W W.heap.size u ⟨((toL r).k : Nat), 1, accP (toL r), (nxP (toL r)).map ofN⟩) => show Calls Try.prog 56 #[u, .int .i64 m] W fun e w' => ∃ g cap gr cr, e = .returned (.slice (some ⟨g, 0, none⟩) (m + 1) cap) ∧ g < w'.heap.size ∧ w'.cell? ⟨g, m, none⟩ = some (.slice (some ⟨gr, 0, none⟩) (accP (toL r)).length cr) ∧ gr < w'.heap.size ∧ w'.cell? ⟨gr, 1, none⟩ = some (.int .i64 ((cntA (auP (toL r)) m 1 : Nat) : Int)) ∧ Below W.heap.size W w' from by
    have hl := (okL h0).1.2
    have hk := wide_cases hl.k0 hl.k3
    have hF := F_pos (toL r)
    have ea : (auX (accP (toL r)) (nxP (toL r))).acc = (auP (toL r)).acc := rfl
    have en : (auX (accP (toL r)) (nxP (toL r))).nx = (auP (toL r)).nx := rfl
    have ec := cntA_congr ea en
    have hFl : (F (toL r)).length ≤ 1200 := by
      have h1 := places_len hl ((toL r).acc.length * 8)
      have h2 := (okL h0).2
      have h3 : (F (toL r)).length ≤ (toL r).acc.length * 8 := h1
      omega
    refine (listCounts _ 1 (accP (toL r)) (nxP (toL r)) (wide (toL r).k) (by rw [accP_len]; omega) (by rw [accP_len, nxP_len]) (by rw [accP_len]; omega) (by omega) (by omega)
      (fun s hs => (nxP_row hl hs).1) (fun s hs => (nxP_row hl hs).2) m (by omega) (fun j hj s hs => by
        rw [ec]
        rw [accP_len] at hs
        exact cntP_small hl (by omega) hs) u W W.heap.size hu (Nat.le_refl _)).mono ?_
    rintro e w' ⟨vn, rfl, hbu, hb⟩
    have e1 : (CntI.tabN (auX (accP (toL r)) (nxP (toL r))) (m + 1)).getD m [] = (List.range (accP (toL r)).length).map fun s => ((cntA (auP (toL r)) m s : Nat) : Int) := by
      unfold CntI.tabN
      rw [ec]
      simp [List.getD, auX]
    have h1 : 1 < (accP (toL r)).length := by rw [accP_len]; omega
    obtain ⟨g, cap, gr, cr, hv, hg, hc, hgr, hcr⟩ := tab_cell hbu (j := m) (i := 1) (by simp [CntI.tabN]) (by rw [e1]; simpa using h1)
    rw [e1] at hc hcr
    refine ⟨g, cap, gr, cr, by rw [hv]; simp [CntI.tabN, auX], hg, by rw [hc]; simp, hgr, ?_, hb⟩
    rw [hcr]
    simp [List.getD, h1])
  have HLN := Lib.hid (show 1 < (accP (toL r)).length from by rw [accP_len]; have := F_pos (toL r); omega)
  obtain ⟨V, hV⟩ : ∃ y, y = cntV r x := ⟨_, rfl⟩
  obtain ⟨C, hC⟩ : ∃ y, y = cntC r x := ⟨_, rfl⟩
  obtain ⟨q, hq⟩ : ∃ y, y = okB r := ⟨_, rfl⟩
  rw [← hV, ← hC] at HE0 HE1 HE2
  rw [← hq] at HV1 HE0 HE1 HE2 HRP HLC
  rw [← hV, ← hC]
  obtain ⟨AL, hAL⟩ : ∃ y, y = accP (toL r) := ⟨_, rfl⟩
  obtain ⟨NL, hNL⟩ : ∃ y, y = (nxP (toL r)).map ofN := ⟨_, rfl⟩
  obtain ⟨kk, hkk⟩ : ∃ y : Int, y = (((toL r).k : Nat) : Int) := ⟨_, rfl⟩
  rw [← hAL, ← hNL, ← hkk] at HRP HLC
  rw [← hAL] at HLN
  obtain ⟨f, hf⟩ : ∃ f, f = cntA (auP (toL r)) := ⟨_, rfl⟩
  rw [← hf] at HLC HE2
  obtain ⟨m, hmx⟩ : ∃ m, m = x.toNat := ⟨_, rfl⟩
  rw [← hmx] at HE2
  have HMX := Lib.hid hmx
  clear hV hC hq hAL hNL hkk hf hmx
  obtain ⟨va, vn, rfl, ha, hn⟩ := h
  obtain ⟨aa1, ba, oa, ca1, rfl, -, -, -⟩ := ha
  obtain ⟨-, ⟨ab1, bb, ob, cb1, rfl, -, -, -⟩, -⟩ := hn
  obtain ⟨k1, hk⟩ : ∃ y, y = r.tapes := ⟨_, rfl⟩
  obtain ⟨st1, hst⟩ : ∃ y, y = r.start := ⟨_, rfl⟩
  obtain ⟨na1, hna⟩ : ∃ y, y = r.accept.length := ⟨_, rfl⟩
  obtain ⟨nb1, hnb⟩ : ∃ y, y = r.next.length := ⟨_, rfl⟩
  rw [← hk, ← hst, ← hna, ← hnb] at HV1 HRP
  rw [← hk, ← hst, ← hna, ← hnb]
  clear hk hst hna hnb
  have HC1 := Lib.hid (HV1.out (w.alloc (.cells #[.int .i64 k1, .int .i64 st1, .slice aa1 na1 ca1, .slice ab1 nb1 cb1] 29)) ((Below.refl _ _).alloc (Nat.le_refl _) _))
  clear HV1 hB
  go_enter Try.func17, Try.ntmps17
  go_wp2_with fail
  refine HC1.out.mono ?_
  rintro e w3 ⟨rfl, hb3⟩
  rw [size_alloc'] at hb3
  have HK3 := Lib.hid (show E1 w #[.int .i64 k1, .int .i64 st1, .slice aa1 na1 ca1, .slice ab1 nb1 cb1] w3 from hb3)
  clear hb3 HC1
  cases q with
  | false =>
    obtain ⟨rfl, rfl⟩ := HE0.out rfl
    clear HE0 HE1 HE2 HRP HLC
    go_wp2_with fail
    go_ret2
    exact ⟨rfl, E1.base HK3.out⟩
  | true =>
    by_cases hx : 0 ≤ x ∧ x ≤ 18
    · obtain ⟨rfl, rfl⟩ := HE2.out rfl hx
      obtain rfl : x = (m : Int) := by have := HMX.out; omega
      obtain ⟨hx0, hx1⟩ := hx
      have hm : m ≤ 18 := by omega
      have d1 : decide ((m : Int) < 0) = false := decide_eq_false (by omega)
      have d2 : decide ((m : Int) > 18) = false := decide_eq_false (by omega)
      have HR4 := Lib.hid (HRP.out rfl w3 (E1.base HK3.out))
      have HL4 := Lib.hid (HLC.out rfl m hm)
      clear HE0 HE1 HE2 HRP HLC
      have x0 := cells_get (E1.box HK3.out) 0
      have x1 := cells_get (E1.box HK3.out) 1
      have x2 := cells_get (E1.box HK3.out) 2
      have x3 := cells_get (E1.box HK3.out) 3
      simp at x0 x1 x2 x3
      have hl := E1.size HK3.out
      go_wp2_with fail
      refine HR4.out.mono ?_
      rintro e w4 ⟨va4, vn4, rfl, hbu, hb4⟩
      have HK4 := Lib.hid (E1.go HK3.out hb4)
      obtain ⟨a7, n7, c7, rfl, -⟩ := hbu.acc.shape'
      obtain ⟨items7, -, hnx7, -⟩ := hbu.rows
      obtain ⟨b7, m7, d7, rfl, -⟩ := hnx7.shape'
      have HRD := Lib.hid (fun W (hb : Below w4.heap.size w4 W) => (hbu.below hb).reads W.heap.size (Nat.le_refl _) kk 1)
      have HBX := Lib.hid (fun W (hb : Below (w4.heap.size + 1) (w4.alloc (.cells #[.int .i64 kk, .int .i64 1, .slice a7 n7 c7, .slice b7 m7 d7] 29)) W) => (show W.heap[w4.heap.size]? = some (.cells #[.int .i64 kk, .int .i64 1, .slice a7 n7 c7, .slice b7 m7 d7] 29 (0, 0)) ∧ w4.heap.size + 1 ≤ W.heap.size ∧ Below w.heap.size w W from
        ⟨(hb.block _ (Nat.lt_succ_self _)).trans (heap_alloc_new _ _), by have := hb.size; rwa [size_alloc'] at this, E1.base (E1.go HK4.out (((Below.refl _ _).alloc (Nat.le_refl _) _).trans (hb.mono (Nat.le_succ _))))⟩))
      have hb0 : Below (w4.heap.size + 1) (w4.alloc (.cells #[.int .i64 kk, .int .i64 1, .slice a7 n7 c7, .slice b7 m7 d7] 29)) ((w4.alloc (.cells #[.int .i64 kk, .int .i64 1, .slice a7 n7 c7, .slice b7 m7 d7] 29)).drew) := below_drewN (Below.refl _ _) 1
      have HL5 := Lib.hid (HL4.out ((w4.alloc (.cells #[.int .i64 kk, .int .i64 1, .slice a7 n7 c7, .slice b7 m7 d7] 29)).drew) _ (HRD.out _ (below_drewN ((Below.refl _ _).alloc (Nat.le_refl _) _) 1)))
      have h1AL := HLN.out
      have HB0 := Lib.hid hb0
      have HSZ := Lib.hid (show ((w4.alloc (.cells #[.int .i64 kk, .int .i64 1, .slice a7 n7 c7, .slice b7 m7 d7] 29)).drew).heap.size = w4.heap.size + 1 from size_alloc' _ _)
      clear hbu hb4 hnx7 HR4 HL4 hb0 x0 x1 x2 x3 hl HLN
      go_wp2_with fail
      go_region_with (go_at_call 56; refine HL5.out.mono ?_; rintro e w5 ⟨g, cap, gr, cr, rfl, hg, hc, hgr, hcr, hb5⟩; rw [HSZ.out] at hb5; obtain ⟨hbx, hsz, hbas⟩ := HBX.out w5 (Below.trans HB0.out hb5); have z1 := cells_get hbx 1; simp at z1; have HBB := Lib.hid hbas; clear hb5 hbx hbas)
      all_goals
        go_wp2_with fail
        go_ret2
        exact ⟨rfl, HBB.out⟩
    · obtain ⟨rfl, rfl⟩ := HE1.out rfl hx
      clear HE0 HE1 HE2 HRP HLC
      by_cases h0 : x < 0
      · have d1 : decide (x < 0) = true := by simpa using h0
        go_wp2_with fail
        go_ret2
        exact ⟨rfl, E1.base HK3.out⟩
      · have d1 : decide (x < 0) = false := by simpa using h0
        have d2 : decide (x > 18) = true := by simp; omega
        go_wp2_with fail
        go_ret2
        exact ⟨rfl, E1.base HK3.out⟩
end Go.Proofs.Ytaebeglcoghehaa.CntTup
/- How many lists of each length an automaton takes from each state, up to a cap: what the model's l01Ways hands back.
   Conditions: the relation is read as XValid's text says. -/
namespace Go.Proofs.Ytaebeglcoghehaa.WaysS
set_option linter.unusedVariables false
set_option linter.unusedSimpArgs false
set_option maxRecDepth 100000
open Go.RowKit Mem Copy Rel Valid Heap Bld SpecFiner SpecRight TidyAuto TidyRight CntMath Automaton Tab CntI

theorem minS (a b : Int) (w : World) : Calls Try.prog 94 #[.int .i64 a, .int .i64 b] w fun e w' => e = .returned (.int .i64 (min a b)) ∧ w = w' := by
  by_cases h : a < b
  · have hm : min a b = a := by omega
    rw [hm]
    go_enter Try.func94, Try.ntmps94
    go_wp2
    go_ret
    exact ⟨rfl, rfl⟩
  · have hm : min a b = b := by omega
    rw [hm]
    go_enter Try.func94, Try.ntmps94
    go_wp2
    go_ret
    exact ⟨rfl, rfl⟩

/-- The table of the counts, no more than a cap. -/
def capN (top : Nat) (A : Au) (m : Nat) : List (List Int) := (List.range m).map fun j => (List.range A.n).map fun s => ((capA top A j s : Nat) : Int)

set_option maxHeartbeats 8000000 in
theorem ways (k st : Int) (A : List Bool) (N : List (List Nat)) (q : Nat) (h0 : 0 < A.length) (hl : N.length = A.length) (hn : A.length ≤ 100000) (hq0 : 0 < q) (hq : q ≤ 26)
    (hrow : ∀ s, s < A.length → (N.getD s []).length = q) (hlt : ∀ s, s < A.length → ∀ c, c < q → (N.getD s []).getD c 0 < A.length)
    (m : Nat) (hm : m ≤ 100000) (top : Nat) (ht1 : 1 ≤ top) (ht2 : top ≤ 1152921504606846976) (bp : Nat) (w : World) (B : Nat) (h : RelPtr w B bp ⟨k, st, A, N.map ofN⟩) (hB : B ≤ w.heap.size) (hbp : bp < w.heap.size) :
    Calls Try.prog 53 #[.pointer (some ⟨bp, 0, none⟩), .int .i64 m, .int .i64 top] w fun e w' => ∃ vn, e = .returned vn ∧ Built w' w.heap.size (.slice none 0 0) vn [] (capN top (auX A N) (m + 1)) ∧ Below w.heap.size w w' := by
  have HTB := Lib.hid (show capN top (auX A N) (m + 1) = (List.range (m + 1)).map fun j => (List.range A.length).map fun s => ((min (cntA (auX A N) j s) top : Nat) : Int) from rfl)
  have HZ := Lib.hid (fun s => show ((min (cntA (auX A N) 0 s) top : Nat) : Int) = if A.getD s false = true then 1 else 0 from by
    show ((min (if A.getD s false = true then 1 else 0 : Nat) top : Nat) : Int) = _
    split <;> omega)
  have HSU := Lib.hid (fun j s => show cntA (auX A N) (j + 1) s = sumN ((N.getD s []).map (cntA (auX A N) j)) from rfl)
  obtain ⟨f, hf⟩ : ∃ f, f = cntA (auX A N) := ⟨_, rfl⟩
  rw [← hf] at HTB HZ HSU
  clear hf
  obtain ⟨va, vn, c0, c1, c2, c3, ha0, hx0⟩ := h
  have ha : Bools w B va A := ha0
  have hx : IntRows w B vn (N.map ofN) := hx0
  clear ha0 hx0 c0 c1
  obtain ⟨aa, ba, oa, ca, rfl, hma, haa, hca⟩ := ha
  obtain ⟨V, ⟨an, bn, on, cn, rfl, hmn, han, hcn⟩, hrows⟩ := hx
  have hln : (N.map ofN).length = A.length := by rw [List.length_map, hl]
  rw [hln] at hmn han hcn hrows
  obtain ⟨rfl, hba⟩ := haa h0
  obtain ⟨rfl, hbn⟩ := han h0
  have c2' : w.cell? ⟨bp, 2, none⟩ = some (.slice (some ⟨ba, oa, none⟩) A.length ca) := c2
  have c3' : w.cell? ⟨bp, 3, none⟩ = some (.slice (some ⟨bn, on, none⟩) A.length cn) := by rw [← hln]; exact c3
  clear c2 c3
  have HA := Lib.hid (fun W (hb : Below w.heap.size w W) (i : Nat) (hi : i < A.length) => (show W.cell? ⟨ba, oa + i, none⟩ = some (.bool (A.getD i false)) from (hb.cell (p := ⟨ba, oa + i, none⟩) (by show ba < _; omega)).trans (hca i hi)))
  have HN := Lib.hid (fun W (hb : Below w.heap.size w W) (i : Nat) (hi : i < A.length) => (show W.cell? ⟨bn, on + i, none⟩ = some (V i) from (hb.cell (p := ⟨bn, on + i, none⟩) (by show bn < _; omega)).trans (hcn i hi)))
  have HR := Lib.hid (fun (s : Nat) (hs : s < A.length) => (show ∃ br or cr, V s = .slice (some ⟨br, or, none⟩) q cr ∧ br < w.heap.size ∧ ∀ W, Below w.heap.size w W → ∀ c, c < q → W.cell? ⟨br, or + c, none⟩ = some (.int .i64 (((N.getD s []).getD c 0 : Nat) : Int)) from by
    have h1 := hrows s hs
    have hget : (N.map ofN).getD s [] = ofN (N.getD s []) := by
      have h1 : s < N.length := by rw [hl]; exact hs
      simp [List.getD, h1]
    rw [hget] at h1
    obtain ⟨ar, br, or, cr, hvr, hmr, har, hcr⟩ := h1
    rw [ofN_length, hrow s hs] at hvr hmr har hcr
    obtain ⟨rfl, hbr⟩ := har hq0
    refine ⟨br, or, cr, hvr, by omega, fun W hb c hc => ?_⟩
    rw [hb.cell (p := ⟨br, or + c, none⟩) (by show br < _; omega), hcr c hc]
    show some (Value.int .i64 ((ofN (N.getD s [])).getD c 0)) = _
    rw [ofN_get _ (by rw [hrow s hs]; exact hc)]))
  have HRW := Lib.hid hrow
  have HLT := Lib.hid hlt
  have q1 : ba < w.heap.size := by omega
  have q2 : bn < w.heap.size := by omega
  have HX := Lib.hid (fun W (hb : Below w.heap.size w W) => (show W.cell? ⟨bp, 2, none⟩ = some (.slice (some ⟨ba, oa, none⟩) A.length ca) ∧ W.cell? ⟨bp, 3, none⟩ = some (.slice (some ⟨bn, on, none⟩) A.length cn) from
    ⟨(hb.cell (p := ⟨bp, 2, none⟩) hbp).trans c2', (hb.cell (p := ⟨bp, 3, none⟩) hbp).trans c3'⟩))
  obtain ⟨n, hnn⟩ : ∃ n, n = A.length := ⟨_, rfl⟩
  rw [← hnn] at HA HN HR HRW HLT HTB HX hma hn h0
  clear hca hcn hrows hrow hlt hnn hln hl haa han hba hbn hB hmn c2' c3'
  have hmk := run_make_row' (P := Try.prog) 44 2 (.int .i64 0) 8 Try.underlying44 info2 rfl .i64 .i64 n (by omega) (by omega)
  have HL0 := Lib.hid (show Lst (w.alloc (.cells (madeCells #[Value.int .i64 0] n) 2)) w.heap.size 2 (.slice (some ⟨w.heap.size, 0, none⟩) n n) (tv n fun _ => 0) from by
    have h1 := Lst.made w w.heap.size 2 (.int .i64 0) n (Nat.le_refl _) (by unfold maxLen; omega)
    rw [tv_rep] at h1
    exact h1)
  have HK0 := Lib.hid ((Below.refl w.heap.size w).alloc (Nat.le_refl _) (.cells (madeCells #[Value.int .i64 0] n) 2))
  have x2 := (HX.out _ (Below.refl _ w)).1
  have x1 := (HX.out _ HK0.out).1
  go_enter Try.func53, Try.ntmps53
  go_wp2_with fail
  go_loopw [8] (fun s8 wr => ∃ i : Nat, i ≤ n ∧ s8 = .int .i64 i ∧ Lst wr w.heap.size 2 (.slice (some ⟨w.heap.size, 0, none⟩) n n) (tv n fun s => if s < i then ((min (f 0 s) top : Nat) : Int) else 0) ∧ Below w.heap.size w wr) (fun s8 _ => n - (intOf s8).toNat)
  case atStart => exact ⟨0, Nat.zero_le _, rfl, by have := HL0.out; simpa using this, HK0.out⟩
  case round =>
    obtain ⟨i, hi, rfl, hli, hki⟩ := hrel
    have HLI := Lib.hid hli
    have HKI := Lib.hid hki
    clear hli hki HL0 HK0 x1 x2
    obtain ⟨z2, z3⟩ := HX.out _ HKI.out
    have zl := HKI.out.size
    by_cases hlt : i < n
    · have cA := HA.out wr (HKI.out) i hlt
      have c9 := HLI.out.cellOf (i := i) (by rw [tv_length]; exact hlt)
      have f9 := HLI.out.free i
      rw [tv_get] at c9
      have hgl := HLI.out.lt (k := w.heap.size) rfl
      have hz := HZ.out i
      cases hav : A.getD i false with
      | true =>
        rw [hav] at cA hz
        go_wp2_with fail
        go_roundw
        case rel =>
          have h1 := HLI.out.set (i := i) (by rw [tv_length]; exact hlt) (.int .i64 1)
          rw [tv_set] at h1
          refine ⟨i + 1, hlt, by go_num, ?_, HKI.out.setCell (p := ⟨w.heap.size, i, none⟩) (Nat.le_refl _) _⟩
          rw [show (fun s => if s < i + 1 then ((min (f 0 s) top : Nat) : Int) else 0) = (fun s => if s = i then (1 : Int) else if s < i then ((min (f 0 s) top : Nat) : Int) else 0) from funext fun s => by
            by_cases e : s = i
            · subst e; simpa using hz
            · have : (s < i + 1) = (s < i) := by apply propext; constructor <;> intro h <;> omega
              simp only [if_neg e, this]]
          exact h1
        case measure => simp [intOf]; omega
      | false =>
        rw [hav] at cA hz
        go_wp2_with fail
        go_roundw
        case rel =>
          refine ⟨i + 1, hlt, by go_num, ?_, HKI.out⟩
          rw [show (fun s => if s < i + 1 then ((min (f 0 s) top : Nat) : Int) else 0) = (fun s => if s < i then ((min (f 0 s) top : Nat) : Int) else 0) from funext fun s => by
            by_cases e : s = i
            · subst e; simpa using hz
            · have : (s < i + 1) = (s < i) := by apply propext; constructor <;> intro h <;> omega
              simp only [this]]
          exact HLI.out
        case measure => simp [intOf]; omega
    · obtain rfl : i = n := by omega
      have HT0 := Lib.hid (show Tb (wr.alloc (.cells #[.slice (some ⟨w.heap.size, 0, none⟩) i i] 44)) w.heap.size (.slice (some ⟨wr.heap.size, 0, none⟩) 1 1) [] [(.slice (some ⟨w.heap.size, 0, none⟩) i i, tv i fun s => ((min (f 0 s) top : Nat) : Int))] from by
        have h1 := HLI.out
        rw [tv_congr (S := fun s => ((min (f 0 s) top : Nat) : Int)) (fun q hq => by rw [if_pos hq])] at h1
        exact Tb.first h1 HKI.out.size)
      have HK1 := Lib.hid (HKI.out.alloc HKI.out.size (.cells #[.slice (some ⟨w.heap.size, 0, none⟩) i i] 44))
      go_wp2_with fail
      go_loopw [7, 9, 10, 11, 12, 13] (fun s7 s8 s35 _ _ _ wr => ∃ (j : Nat) (vr vc : Value) (items : List (Value × List Value)), j ≤ m ∧ s35 = .int .i64 ((j : Int) + 1) ∧ vr = s7 ∧ vc = s8 ∧ (items.map Prod.fst)[j]? = some vr ∧ Tb wr w.heap.size vc [] items ∧ items.map Prod.snd = (List.range (j + 1)).map (fun j => tv i fun s => ((min (f j s) top : Nat) : Int)) ∧ Below w.heap.size w wr) (fun _ _ s35 _ _ _ _ => m + 1 - (intOf s35).toNat)
      case atStart => exact ⟨0, _, _, _, Nat.zero_le _, rfl, rfl, rfl, rfl, HT0.out, rfl, HK1.out⟩
      case round =>
        obtain ⟨j, vr, vc, items, hj, rfl, rfl, rfl, hvr, htb, hit, hkj⟩ := hrel
        have HVR := Lib.hid hvr
        clear hvr
        have HTJ := Lib.hid htb
        have HIT := Lib.hid hit
        have HKJ := Lib.hid hkj
        clear htb hit hkj HT0 HK1 HLI HKI hlt hi
        obtain ⟨z2, z3⟩ := HX.out _ HKJ.out
        have zl := HKJ.out.size
        by_cases hjm : j < m
        · have hjd : decide ((j : Int) + 1 ≤ (m : Int)) = true := by simp; omega
          have hji : j < items.length := by
            have := congrArg List.length HIT.out
            rw [List.length_map, List.length_map, List.length_range] at this
            omega
          have HIJ := Lib.hid (show items[j].2 = tv i fun s => ((min (f j s) top : Nat) : Int) from by
            have h5 := congrArg (fun x => x[j]?) HIT.out
            simp [hji] at h5
            rw [h5])
          have hlj0 := HTJ.out.item hji
          rw [HIJ.out] at hlj0
          obtain ⟨gj, cpj, hvj, -⟩ := hlj0.view (by rw [tv_length]; omega)
          rw [tv_length] at hvj
          have HVJ := Lib.hid hvj
          have hvr2 : vr = .slice (some ⟨gj, 0, none⟩) i cpj := by
            have := HVR.out
            rw [List.getElem?_map, List.getElem?_eq_getElem hji] at this
            simp at this
            rw [← this, hvj]
          subst hvr2
          clear hlj0 hvj HVR
          have x3 := (HX.out _ HKJ.out).2
          have hl1 := HKJ.out.size
          obtain ⟨g, hg⟩ : ∃ g, g = wr.heap.size := ⟨_, rfl⟩
          have HT1 := Lib.hid (show Tb (wr.alloc (.cells (madeCells #[Value.int .i64 0] i) 2)) w.heap.size vc [(.slice (some ⟨g, 0, none⟩) i i, tv i fun _ => 0)] items from by
            have h1 := Lst.made wr w.heap.size 2 (.int .i64 0) i (HKJ.out.size) (by unfold maxLen; omega)
            rw [tv_rep] at h1
            rw [hg]
            exact HTJ.out.addInt ((Below.refl _ _).alloc (Nat.le_refl _) _) h1 (fun q hq => by cases hq; exact Nat.le_refl _))
          have HK2 := Lib.hid (HKJ.out.alloc HKJ.out.size (.cells (madeCells #[Value.int .i64 0] i) 2))
          have y3 := (HX.out _ HK2.out).2
          have HGB := Lib.hid (show w.heap.size ≤ g by rw [hg]; exact hl1)
          obtain ⟨a8, n8, c8, rfl, HN8⟩ := HTJ.out.nxt.shape'
          go_wp2_with fail
          rw [← hg]
          clear hg
          go_loopw [12, 13] (fun s45 _ wr' => ∃ s : Nat, s ≤ i ∧ s45 = .int .i64 s ∧ Tb wr' w.heap.size (.slice a8 n8 c8) [(.slice (some ⟨g, 0, none⟩) i i, tv i fun p => if p < s then ((min (f (j + 1) p) top : Nat) : Int) else 0)] items ∧ Below w.heap.size w wr') (fun s45 _ _ => i - (intOf s45).toNat)
          case atStart => exact ⟨0, Nat.zero_le _, rfl, by have := HT1.out; simpa using this, HK2.out⟩
          case round =>
            obtain ⟨s, hs, rfl, htb, hks⟩ := hrel
            have HTS := Lib.hid htb
            have HKS := Lib.hid hks
            clear htb hks HT1 HK2 HTJ HKJ x3 y3 hl1 z2 z3 zl
            obtain ⟨z2, z3⟩ := HX.out _ HKS.out
            have zl := HKS.out.size
            by_cases hsi : s < i
            · obtain ⟨br, or, cr, hvs, hbr, hcr⟩ := HR.out s hsi
              have HCR := Lib.hid hcr
              have cN := HN.out _ (HKS.out) s hsi
              rw [hvs] at cN
              have HRS := Lib.hid (HRW.out s hsi)
              have HLS := Lib.hid (HLT.out s hsi)
              have HSS := Lib.hid (HSU.out j s)
              obtain ⟨X, hX⟩ : ∃ X, X = N.getD s [] := ⟨_, rfl⟩
              rw [← hX] at HCR HRS HLS HSS
              clear hX hcr
              have HT2 := Lib.hid (show Tb wr w.heap.size (.slice a8 n8 c8) [(.slice (some ⟨g, 0, none⟩) i i, tv i fun p => if p < s then ((min (f (j + 1) p) top : Nat) : Int) else if p = s then ((min (sumN ((X.map (f j)).take 0)) top : Nat) : Int) else 0)] items from by
                have h1 := HTS.out
                rw [show (fun p => if p < s then ((min (f (j + 1) p) top : Nat) : Int) else if p = s then ((min (sumN ((X.map (f j)).take 0)) top : Nat) : Int) else 0) = (fun p => if p < s then ((min (f (j + 1) p) top : Nat) : Int) else 0) from funext fun p => by
                  by_cases e : p < s
                  · rw [if_pos e, if_pos e]
                  · rw [if_neg e, if_neg e]; split <;> simp [sumN]]
                exact h1)
              have hl1 := HKS.out.size
              go_wp2_with fail
              go_loopw [13] (fun s52 wr' => ∃ c : Nat, c ≤ q ∧ s52 = .int .i64 c ∧ Tb wr' w.heap.size (.slice a8 n8 c8) [(.slice (some ⟨g, 0, none⟩) i i, tv i fun p => if p < s then ((min (f (j + 1) p) top : Nat) : Int) else if p = s then ((min (sumN ((X.map (f j)).take c)) top : Nat) : Int) else 0)] items ∧ Below w.heap.size w wr') (fun s52 _ => q - (intOf s52).toNat)
              case atStart => exact ⟨0, Nat.zero_le _, rfl, HT2.out, HKS.out⟩
              case round =>
                obtain ⟨c, hc, rfl, htb, hkc⟩ := hrel
                have HTC := Lib.hid htb
                have HKC := Lib.hid hkc
                clear htb hkc HT2 HTS HKS hl1 z2 z3 zl
                obtain ⟨z2, z3⟩ := HX.out _ HKC.out
                have zl := HKC.out.size
                have cN := HN.out _ HKC.out s hsi
                rw [hvs] at cN
                by_cases hcq : c < q
                · have cX := HCR.out _ (HKC.out) c hcq
                  obtain ⟨y, hy⟩ : ∃ y, y = X.getD c 0 := ⟨_, rfl⟩
                  have hyi : y < i := by rw [hy]; exact HLS.out c hcq
                  have hxc : c < X.length := by rw [HRS.out]; exact hcq
                  have HST := Lib.hid (show min (sumN ((X.map (f j)).take (c + 1))) top = min (min (sumN ((X.map (f j)).take c)) top + min (f j y) top) top from by
                    have := cap_sum top (f j) X c hxc
                    rw [← this, hy]
                    simp [List.getD, hxc])
                  rw [← hy] at cX
                  obtain ⟨S, hS⟩ : ∃ S, S = min (sumN ((X.map (f j)).take c)) top := ⟨_, rfl⟩
                  obtain ⟨C, hC⟩ : ∃ C, C = min (f j y) top := ⟨_, rfl⟩
                  have hSt : S ≤ top := by omega
                  have hCt : C ≤ top := by omega
                  have hwr : IntKind.i64.wrap ((S : Int) + (C : Int)) = (S : Int) + (C : Int) := by rw [IntKind.wrap_i64]; omega
                  have HMN := Lib.hid (fun W => (show Calls Try.prog 94 #[.int .i64 ((S : Int) + (C : Int)), .int .i64 top] W fun e w' => e = .returned (.int .i64 ((min (S + C) top : Nat) : Int)) ∧ W = w' from by
                    have h1 := minS ((S : Int) + (C : Int)) top W
                    rw [show min ((S : Int) + (C : Int)) (top : Int) = ((min (S + C) top : Nat) : Int) by omega] at h1
                    exact h1))
                  have hlj := HTC.out.item hji
                  rw [HIJ.out, HVJ.out] at hlj
                  have cY := hlj.cellOf (i := y) (by rw [tv_length]; exact hyi)
                  rw [tv_get, ← hC] at cY
                  have hjl := hlj.lt (k := gj) rfl
                  have cG := (Own.get [] _ HTC.out.own).cellOf (i := s) (by rw [tv_length]; exact hsi)
                  have fG := (Own.get [] _ HTC.out.own).free s
                  rw [tv_get, if_neg (Nat.lt_irrefl s), if_pos rfl, ← hS] at cG
                  have hgl := (Own.get [] _ HTC.out.own).lt (k := g) rfl
                  have HS2 := Lib.hid hS
                  have HC2 := Lib.hid hC
                  clear hy hlj hS hC HCR
                  go_wp2_with fail
                  go_region_with (go_at_call 94; refine (HMN.out _).mono ?_; rintro e w' ⟨rfl, rfl⟩)
                  all_goals
                    go_wp2_with fail
                    go_roundw
                    case rel =>
                      have h1 := Tb.setInt [] [] (i := s) HTC.out (by rw [tv_length]; exact hsi) (.int .i64 ((min (S + C) top : Nat) : Int))
                      rw [tv_set] at h1
                      refine ⟨c + 1, hcq, by go_num, ?_, (HKC.out.setCell (p := ⟨g, s, none⟩) HGB.out _).drew⟩
                      rw [HST.out, ← HS2.out, ← HC2.out, show (fun p => if p < s then ((min (f (j + 1) p) top : Nat) : Int) else if p = s then ((min (S + C) top : Nat) : Int) else 0) = (fun p => if p = s then ((min (S + C) top : Nat) : Int) else if p < s then ((min (f (j + 1) p) top : Nat) : Int) else if p = s then ((min (sumN ((X.map (f j)).take c)) top : Nat) : Int) else 0) from funext fun p => by
                        by_cases e : p = s
                        · subst e
                          rw [if_neg (Nat.lt_irrefl p), if_pos rfl, if_pos rfl]
                        · rw [if_neg e, if_neg e, if_neg e]]
                      exact h1.drew
                    case measure => simp [intOf]; omega
                · obtain rfl : c = q := by omega
                  go_wp2_with fail
                  go_roundw
                  case rel =>
                    refine ⟨s + 1, hsi, by go_num, ?_, HKC.out⟩
                    have h1 := HTC.out
                    rw [show (fun p => if p < s then ((min (f (j + 1) p) top : Nat) : Int) else if p = s then ((min (sumN ((X.map (f j)).take c)) top : Nat) : Int) else 0) = (fun p => if p < s + 1 then ((min (f (j + 1) p) top : Nat) : Int) else 0) from funext fun p => by
                      by_cases e : p = s
                      · subst e
                        rw [if_neg (Nat.lt_irrefl p), if_pos rfl, if_pos (Nat.lt_succ_self p), List.take_of_length_le (by rw [List.length_map, HRS.out]; exact Nat.le_refl _), ← HSS.out]
                      · have : (p < s + 1) = (p < s) := by apply propext; constructor <;> intro h <;> omega
                        rw [if_neg e]
                        simp only [this]] at h1
                    exact h1
                  case measure => simp [intOf]; omega
            · obtain rfl : s = i := by omega
              have HTE := Lib.hid (show Tb wr w.heap.size (.slice a8 n8 c8) ([] ++ (.slice (some ⟨g, 0, none⟩) s s, tv s fun p => ((min (f (j + 1) p) top : Nat) : Int)) :: []) items from by
                have h1 := HTS.out
                rw [tv_congr (S := fun p => ((min (f (j + 1) p) top : Nat) : Int)) (fun q hq => by rw [if_pos hq])] at h1
                exact h1)
              have HIL := Lib.hid (show (items.map Prod.fst).length ≤ 100000000 from by
                have := congrArg List.length HIT.out
                rw [List.length_map, List.length_map, List.length_range] at this
                rw [List.length_map]; omega)
              have HS4 := Lib.hid (HKS.out.size)
              go_wp2_with (at_builtin; refine wpList_push rfl _ _ 23 rfl 44 (.slice none 0 0) 24 Try.underlying23 info54 (by decide) (by decide) w.heap.size (.slice a8 n8 c8) _ (.slice (some ⟨g, 0, none⟩) s s) HTE.out.nxt HS4.out rfl HIL.out rfl _ rfl rfl ?_; intro v5 w5 hp5; have HT5 := Lib.hid (HTE.out.push [] [] hp5); have HK5 := Lib.hid (show Below w.heap.size w w5 from Below.grown HKS.out hp5.grow HS4.out (fun q hq => HTE.out.nxt.ge hq)); clear hp5)
              go_roundw
              case rel =>
                refine ⟨j + 1, _, _, _, hjm, by go_num, rfl, rfl, ?_, HT5.out, ?_, HK5.out⟩
                · rw [List.map_append, List.getElem?_append_right (by rw [List.length_map]; have := congrArg List.length HIT.out; rw [List.length_map, List.length_map, List.length_range] at this; omega)]
                  have h7 : j + 1 - (items.map Prod.fst).length = 0 := by rw [List.length_map]; have := congrArg List.length HIT.out; rw [List.length_map, List.length_map, List.length_range] at this; omega
                  rw [h7]; rfl
                rw [List.map_append, HIT.out, List.range_succ (n := j + 1), List.map_append]; rfl
              case measure => simp [intOf]; omega
        · obtain rfl : j = m := by omega
          have HRW2 := Lib.hid (HTJ.out.rows (nx := (List.range (j + 1)).map fun j => (List.range i).map fun s => ((min (f j s) top : Nat) : Int)) (by
            rw [HIT.out, List.map_map]
            refine List.map_congr_left fun q _ => ?_
            show tv i _ = ((List.range i).map _).map (Value.int .i64)
            unfold tv; rw [List.map_map]; rfl))
          go_wp2_with fail
          go_ret
          exact ⟨_, rfl, by rw [HTB.out]; exact HRW2.out, HKJ.out⟩
end Go.Proofs.Ytaebeglcoghehaa.WaysS
/- How many tuples have just so many columns: what the model's CountTuples answers.
   Conditions: the relation is read as XMem's text says. -/
namespace Go.Proofs.Ytaebeglcoghehaa.CntTupS
set_option linter.unusedVariables false
set_option linter.unusedSimpArgs false
set_option linter.ambiguousOpen false
set_option maxRecDepth 100000
open Go.RowKit Mem Copy Rel Valid Heap Columns Bld ToL SpecTidyRel TidyMath TidyClass TidyAuto TidyRight SpecFiner SpecRight SpecTidied PairMath CntMath CntI CntTup WaysS Box1 EqS ResKit

theorem askedS (r : R) (x : Int) (bp : Nat) (w : World) (B : Nat) (h : RelPtr w B bp r) :
    Calls Try.prog 51 #[.pointer (some ⟨bp, 0, none⟩), .int .i64 x] w fun e w' => e = .returned (.int .i64 (cntC r x)) ∧ ∃ m, w' = w.drewN m := by
  have HV := Lib.hid (specOk r bp w B h)
  have HE0 := Lib.hid (show okB r = false → cntC r x = 1 from fun h => by simp [cntC, h])
  have HE1 := Lib.hid (show okB r = true → cntC r x = if 0 ≤ x ∧ x ≤ 18 then 0 else 2 from fun h => by simp [cntC, h])
  obtain ⟨C, hC⟩ : ∃ y, y = cntC r x := ⟨_, rfl⟩
  obtain ⟨q, hq⟩ : ∃ y, y = okB r := ⟨_, rfl⟩
  rw [← hC, ← hq] at HE0 HE1
  rw [← hq] at HV
  rw [← hC]
  clear hC hq
  go_enter Try.func51, Try.ntmps51
  go_wp2_with fail
  refine HV.out.mono ?_
  rintro e w' ⟨rfl, m, rfl⟩
  cases q with
  | false =>
    obtain rfl := HE0.out rfl
    go_wp2_with fail
    go_ret
    exact ⟨rfl, m, rfl⟩
  | true =>
    have HE2 := Lib.hid (HE1.out rfl)
    clear HE0 HE1 HV
    by_cases hx : 0 ≤ x ∧ x ≤ 18
    · have e := HE2.out
      rw [if_pos hx] at e
      subst e
      have hin : inB x 0 18 = true := by simp [inB, hx]
      go_wp2_with (go_at_call 44; refine (inRange _ _ _ _).mono ?_; rintro e w' ⟨rfl, rfl⟩)
      go_ret
      exact ⟨rfl, m, rfl⟩
    · have e := HE2.out
      rw [if_neg hx] at e
      subst e
      have hin : inB x 0 18 = false := by simp [inB]; omega
      go_wp2_with (go_at_call 44; refine (inRange _ _ _ _).mono ?_; rintro e w' ⟨rfl, rfl⟩)
      go_ret
      exact ⟨rfl, m, rfl⟩

/-- A built relation in a block is a relation behind a pointer. -/
theorem built_ptr {W : World} {B X : Nat} {k st : Int} {va vn : Value} {A : List Bool} {N : List (List Int)} (hb : Built W B va vn A N) (hat : W.heap[X]? = some (.cells #[.int .i64 k, .int .i64 st, va, vn] 29 (0, 0))) : RelPtr W W.heap.size X ⟨k, st, A, N⟩ := by
  obtain ⟨va', vn', ev, hva, hvn⟩ := hb.reads W.heap.size (Nat.le_refl _) 0 0
  simp at ev
  obtain ⟨rfl, rfl⟩ := ev
  have y0 := cells_get hat 0
  have y1 := cells_get hat 1
  have y2 := cells_get hat 2
  have y3 := cells_get hat 3
  simp at y0 y1 y2 y3
  exact ⟨_, _, y0, y1, y2, y3, hva, hvn⟩


set_option maxHeartbeats 8000000 in
theorem countS (v : Value) (r : R) (x : Int) (w : World) (B : Nat) (h : RelAt w B v r) (hB : B ≤ w.heap.size) :
    Calls Try.prog 16 #[v, .int .i64 x] w fun e w' => e = .returned (.tuple #[.int .i64 (cntV r x), .int .i64 (cntC r x)]) ∧ Below w.heap.size w w' := by
  have hR := h
  obtain ⟨va, vn, rfl, ha, hn⟩ := h
  obtain ⟨aa1, ba, oa, ca1, rfl, -, -, -⟩ := ha
  obtain ⟨-, ⟨ab1, bb, ob, cb1, rfl, -, -, -⟩, -⟩ := hn
  obtain ⟨c, hc⟩ : ∃ c : Array Value, c = #[.int .i64 r.tapes, .int .i64 r.start, .slice aa1 r.accept.length ca1, .slice ab1 r.next.length cb1] := ⟨_, rfl⟩
  have HP1 := Lib.hid (fun W (hk : E1 w c W) => box_ptr hR hB (E1.base hk) (by rw [← hc]; exact E1.box hk))
  have HV1 := Lib.hid (fun W (hk : E1 w c W) => askedS r x w.heap.size W W.heap.size (HP1.out W hk))
  have HTI := Lib.hid (fun (h0 : okB r = true) => (show (toL r).Ok ∧ relOf (toL r) = r ∧ (toL r).acc.length ≤ 150 from by
    have e1 := okL h0
    exact ⟨e1.1.2, e1.1.1, e1.2⟩))
  have HT1 := Lib.hid (fun (h0 : okB r = true) W (hk : E1 w c W) => tidied (toL r) (HTI.out h0).1 w.heap.size W W.heap.size (by rw [(HTI.out h0).2.1]; exact HP1.out W hk) (Nat.le_refl _) (by have := E1.size hk; omega) (by have := (HTI.out h0).2.2; omega))
  have HWY := Lib.hid (fun (h0 : okB r = true) (m : Nat) (hm : m ≤ 18) W X (h1 : RelPtr W W.heap.size X ⟨(toL r).k, 0, tidyAcc (toL r), tidyNext (toL r)⟩) (hX : X < W.heap.size) => show Calls Try.prog 53 #[.pointer (some ⟨X, 0, none⟩), .int .i64 m, .int .i64 1152921504606846976] W fun e w' => ∃ g cap gr n cr, e = .returned (.slice (some ⟨g, 0, none⟩) (m + 1) cap) ∧ g < w'.heap.size ∧ w'.cell? ⟨g, m, none⟩ = some (.slice (some ⟨gr, 0, none⟩) n cr) ∧ 0 < n ∧ gr < w'.heap.size ∧ w'.cell? ⟨gr, 0, none⟩ = some (.int .i64 ((cntA (auL (tidL (toL r))) m 0 : Nat) : Int)) ∧ Below W.heap.size W w' from by
    obtain ⟨e1, e2, e3⟩ := HTI.out h0
    have hl := tidL_ok e1
    have hk := wide_cases hl.k0 hl.k3
    have hp := tidyAcc_pos (toL r)
    have hlen := tidyAcc_len e1
    have e0 : auX (tidL (toL r)).acc (tidL (toL r)).nx = auL (tidL (toL r)) := rfl
    refine (WaysS.ways ((tidL (toL r)).k : Nat) 0 (tidL (toL r)).acc (tidL (toL r)).nx (wide (tidL (toL r)).k) hp hl.len (by show (tidyAcc (toL r)).length ≤ _; omega) (by omega) (by omega)
      (fun s hs => hl.row s hs) (fun s hs c hc => hl.lt s hs c hc) m (by omega) 1152921504606846976 (by omega) (by omega) X W W.heap.size (by rw [← tidL_rel] at h1; exact h1) (Nat.le_refl _) hX).mono ?_
    rintro e w' ⟨vn, rfl, hbu, hb⟩
    rw [e0] at hbu
    have e1' : (capN 1152921504606846976 (auL (tidL (toL r))) (m + 1)).getD m [] = (List.range (tidL (toL r)).acc.length).map fun s => ((capA 1152921504606846976 (auL (tidL (toL r))) m s : Nat) : Int) := by
      unfold capN
      simp [List.getD, auL]
    obtain ⟨g, cap, gr, cr, hv, hg, hc, hgr, hcr⟩ := tab_cell hbu (j := m) (i := 0) (by simp [capN]) (by rw [e1', List.length_map, List.length_range]; exact hp)
    rw [e1'] at hc hcr
    refine ⟨g, cap, gr, _, cr, by rw [hv]; simp [capN, auL], hg, hc, by rw [List.length_map, List.length_range]; exact hp, hgr, ?_, hb⟩
    rw [hcr]
    have hcap : capA 1152921504606846976 (auL (tidL (toL r))) m 0 = cntA (auL (tidL (toL r))) m 0 := by
      unfold capA
      have := cntT_small e1 hm (i := 0) (by have : (tidyAcc (toL r)).length = (tid (auM (toL r)) 0).length := by { unfold tidyAcc tidAcc; rw [List.length_map] }
                                            rw [← this]; exact hp)
      omega
    rw [← hcap]
    have hp' : 0 < (tidL (toL r)).acc.length := hp
    simp [List.getD, hp'])
  have HE1 := Lib.hid (show cntC r x ≠ 0 → cntV r x = 0 from fun h => by unfold cntV; rw [if_neg h])
  have HE2 := Lib.hid (show cntC r x = 0 → okB r = true ∧ (0 ≤ x ∧ x ≤ 18) ∧ cntV r x = ((cntA (auL (tidL (toL r))) x.toNat 0 : Nat) : Int) from fun h => by
    have hv : cntV r x = ((cntA (auL (tidL (toL r))) x.toNat 0 : Nat) : Int) := by unfold cntV; rw [if_pos h]
    unfold cntC at h
    by_cases h1 : okB r = true
    · rw [if_pos h1] at h
      by_cases h2 : 0 ≤ x ∧ x ≤ 18
      · exact ⟨h1, h2, hv⟩
      · rw [if_neg h2] at h; omega
    · rw [if_neg h1] at h; omega)
  obtain ⟨V, hV⟩ : ∃ y, y = cntV r x := ⟨_, rfl⟩
  obtain ⟨C, hC⟩ : ∃ y, y = cntC r x := ⟨_, rfl⟩
  obtain ⟨q, hq⟩ : ∃ y, y = okB r := ⟨_, rfl⟩
  rw [← hV, ← hC] at HE1 HE2
  rw [← hC] at HV1
  rw [← hq] at HT1 HWY HE2
  rw [← hV, ← hC]
  obtain ⟨k1, hk1⟩ : ∃ x : Int, x = (toL r).k := ⟨_, rfl⟩
  obtain ⟨A1, hA1⟩ : ∃ x, x = tidyAcc (toL r) := ⟨_, rfl⟩
  obtain ⟨N1, hN1⟩ : ∃ x, x = tidyNext (toL r) := ⟨_, rfl⟩
  rw [← hk1, ← hA1, ← hN1] at HT1 HWY
  obtain ⟨f, hf⟩ : ∃ f, f = cntA (auL (tidL (toL r))) := ⟨_, rfl⟩
  rw [← hf] at HWY HE2
  obtain ⟨m, hmx⟩ : ∃ m, m = x.toNat := ⟨_, rfl⟩
  rw [← hmx] at HE2
  have HMX := Lib.hid hmx
  clear hV hC hq hk1 hA1 hN1 hf hmx hR HTI HP1 hB
  have HK0 := Lib.hid (show E1 w c (w.alloc (.cells c 29)) from Below.refl _ _)
  have HC0 := Lib.hid (HV1.out _ HK0.out)
  rw [hc] at HC0
  go_enter Try.func16, Try.ntmps16
  go_wp2_with fail
  refine HC0.out.mono ?_
  rw [← hc]
  rintro e w3 ⟨rfl, mm, rfl⟩
  have HK3 := Lib.hid (show E1 w c ((w.alloc (.cells c 29)).drewN mm) from below_drewN (Below.refl _ _) mm)
  generalize (w.alloc (.cells c 29)).drewN mm = w3 at HK3 ⊢
  clear HC0 HK0 HV1 hc
  by_cases h0 : C = 0
  · obtain ⟨rfl, hx, rfl⟩ := HE2.out h0
    subst h0
    obtain rfl : x = (m : Int) := by have := HMX.out; omega
    obtain ⟨hx0, hx1⟩ := hx
    have hm : m ≤ 18 := by omega
    have HC1 := Lib.hid (HT1.out rfl w3 HK3.out)
    have HWW := Lib.hid (HWY.out rfl m hm)
    clear HT1 HWY HE1 HE2
    go_wp2_with fail
    refine HC1.out.mono ?_
    rintro e w7 ⟨va, vn, rfl, hbu, hb7⟩
    have HK7 := Lib.hid (E1.go HK3.out hb7)
    have HBU7 := Lib.hid hbu
    obtain ⟨a7, n7, c7, rfl, -⟩ := hbu.acc.shape'
    obtain ⟨items7, -, hnx7, -⟩ := hbu.rows
    obtain ⟨b7, m7, d7, rfl, -⟩ := hnx7.shape'
    obtain ⟨W8, hW8⟩ : ∃ W8, W8 = (w7.alloc (.cells #[.int .i64 k1, .int .i64 0, .slice a7 n7 c7, .slice b7 m7 d7] 29)).drew := ⟨_, rfl⟩
    have hs8 : W8.heap.size = w7.heap.size + 1 := by rw [hW8]; exact size_alloc' _ _
    have hat8 : W8.heap[w7.heap.size]? = some (.cells #[.int .i64 k1, .int .i64 0, .slice a7 n7 c7, .slice b7 m7 d7] 29 (0, 0)) := by rw [hW8]; exact heap_alloc_new _ _
    have HK8 := Lib.hid (show E1 w c W8 from by rw [hW8]; exact (HK7.out.alloc _).drew)
    have HC4 := Lib.hid (HWW.out W8 w7.heap.size (built_ptr (HBU7.out.below (by rw [hW8]; exact below_drewN ((Below.refl _ _).alloc (Nat.le_refl _) _) 1)) hat8) (by rw [hs8]; exact Nat.lt_succ_self _))
    have HA8 := Lib.hid (And.intro hat8 hs8)
    rw [hW8] at HC4
    have HW8 := Lib.hid hW8
    clear hbu hb7 hnx7 HC1 HWW hW8 hs8 hat8
    go_wp2_with fail
    go_region_with (go_at_call 53; refine HC4.out.mono ?_; rintro e w9 ⟨g, cap, gr, nn, cr, rfl, hg, hc, hnn, hgr, hcr, hb9⟩; rw [← HW8.out] at hb9; have HB9 := Lib.hid (E1.base (E1.go HK8.out hb9)); have z1 := cells_get ((hb9.block w7.heap.size (by rw [HA8.out.2]; exact Nat.lt_succ_self _)).trans HA8.out.1) 1; have hs9 := hb9.size; rw [HA8.out.2] at hs9; simp at z1; clear hb9)
    all_goals
      go_wp2_with fail
      go_ret2
      exact ⟨rfl, HB9.out⟩
  · obtain rfl := HE1.out h0
    have hcne : (C != 0) = true := by simpa using h0
    clear HT1 HWY HE1 HE2
    go_wp2_with fail
    go_ret2
    exact ⟨rfl, E1.base HK3.out⟩
end Go.Proofs.Ytaebeglcoghehaa.CntTupS
