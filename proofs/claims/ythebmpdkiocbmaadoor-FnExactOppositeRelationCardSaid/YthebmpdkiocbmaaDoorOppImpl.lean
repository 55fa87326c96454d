
/- What the program's OppositeRelation answers: a relation in memory of its own, and a code.
   Conditions: the relation is read as XRel's text says; the type's handle lies where errors.As reads it. -/
import Derived.Test.YthebmpdkiocbmaaDoorErrCode
import Derived.Test.YthebmpdkiocbmaaDoorCloneB
import Derived.Test.YthebmpdkiocbmaaDoorValidImpl
namespace Go.Proofs.YthebmpdkiocbmaaDoor.OppImpl
set_option linter.unusedVariables false
set_option linter.unusedSimpArgs false
set_option maxRecDepth 100000
open Go.RowKit Mem Copy Rel Valid Heap Columns Bld TidyAuto TidyRight SpecRight ToL SpecTidyRel ImplRight ImplTidied CloneB ErrAs ErrCode

/-- The automaton that takes what another one does not. -/
def flipL (l : L) : L := { l with acc := l.acc.map fun b => !b }
def flipR (r : R) : R := { r with accept := r.accept.map fun b => !b }
theorem flipL_ok {l : L} (h : l.Ok) : (flipL l).Ok := by
  have e : (flipL l).acc.length = l.acc.length := by simp [flipL]
  exact ⟨h.k0, h.k3, by rw [e]; exact h.st, by rw [e]; exact h.len, fun s hs => h.row s (by rw [e] at hs; exact hs), fun s hs c hc => by rw [e] at hs ⊢; exact h.lt s hs c hc⟩
theorem flip_rel {r : R} (h : relOf (toL r) = r) : relOf (flipL (toL r)) = flipR r := by
  unfold flipR
  conv => rhs; rw [← h]
  rfl

/-- Truth values by a rule. -/
def bvF (n : Nat) (f : Nat → Bool) : List Value := (List.range n).map fun i => Value.bool (f i)
theorem bvF_length (n : Nat) (f : Nat → Bool) : (bvF n f).length = n := by simp [bvF]
theorem bvF_set (n : Nat) (f : Nat → Bool) (k : Nat) (x : Bool) : (bvF n f).set k (.bool x) = bvF n fun i => if i = k then x else f i := by
  apply List.ext_getElem
  · simp [bvF]
  · intro i h1 h2
    simp [bvF, List.getElem_set]
    by_cases e : k = i
    · simp [e]
    · simp [e, Ne.symm e]
theorem bvF_congr {n : Nat} {f g : Nat → Bool} (h : ∀ i, i < n → f i = g i) : bvF n f = bvF n g :=
  List.map_congr_left fun i hi => by rw [h i (List.mem_range.1 hi)]
theorem bvF_list (xs : List Bool) : xs.map Value.bool = bvF xs.length fun i => xs.getD i false := by
  apply List.ext_getElem
  · simp [bvF]
  · intro i h1 h2
    have h3 : i < xs.length := by simpa using h1
    simp [bvF, List.getD, h3]
theorem bvF_flip (xs : List Bool) : bvF xs.length (fun i => !xs.getD i false) = (xs.map fun b => !b).map Value.bool := by
  apply List.ext_getElem
  · simp [bvF]
  · intro i h1 h2
    have h3 : i < xs.length := by simpa [bvF] using h1
    simp [bvF, List.getD, h3]

set_option maxHeartbeats 8000000 in
theorem flippedI (v : Value) (r : R) (h0 : 0 < r.accept.length) (h5 : r.accept.length ≤ 1000) (w : World) (B : Nat) (h : RelAt w B v r) (hB : B ≤ w.heap.size) :
    Calls Tryd.prog 69 #[v] w fun e w' => ∃ va vn, e = .returned (.agg #[.int .i64 r.tapes, .int .i64 r.start, va, vn]) ∧ RelAt w' w'.heap.size (.agg #[.int .i64 r.tapes, .int .i64 r.start, va, vn]) (flipR r) ∧ Below w.heap.size w w' := by
  obtain ⟨va, vn, rfl, ha, hx⟩ := h
  have HAW := Lib.hid (fun W (hb : Below w.heap.size w W) => ha.below hb hB)
  have HNW := Lib.hid (fun W (hb : Below w.heap.size w W) => hx.below hb hB)
  have HCL := Lib.hid (fun W (hb : Below w.heap.size w W) => cloneB r.accept va W B (ha.below hb hB) (Nat.le_trans hB hb.size) h0 h5)
  obtain ⟨aa, ba, oa, ca, rfl, hma, haa, hca⟩ := ha
  obtain ⟨rfl, hbB⟩ := haa h0
  obtain ⟨-, ⟨ab, bb, ob, cb, rfl, -, -, -⟩, -⟩ := hx
  have HCA := Lib.hid (fun W (hb : Below w.heap.size w W) i (hi : i < r.accept.length) => (hb.cell (p := ⟨ba, oa + i, none⟩) (Nat.lt_of_lt_of_le hbB hB)).trans (hca i hi))
  have HFL := Lib.hid (bvF_flip r.accept)
  have HLI := Lib.hid (bvF_list r.accept)
  obtain ⟨k, hk⟩ : ∃ k, k = r.tapes := ⟨_, rfl⟩
  obtain ⟨st, hs⟩ : ∃ st, st = r.start := ⟨_, rfl⟩
  obtain ⟨n, hna⟩ : ∃ n, n = r.accept.length := ⟨_, rfl⟩
  obtain ⟨nb, hnb⟩ : ∃ nb, nb = r.next.length := ⟨_, rfl⟩
  obtain ⟨f, hf⟩ : ∃ f : Nat → Bool, f = fun i => r.accept.getD i false := ⟨_, rfl⟩
  have HF1 := Lib.hid (show r.accept.map Value.bool = bvF n f from by rw [hna, hf]; exact HLI.out)
  have HF2 := Lib.hid (show bvF n (fun i => !f i) = (flipR r).accept.map Value.bool from by rw [hna, hf]; exact HFL.out)
  have HCB := Lib.hid (show ∀ W, Below w.heap.size w W → ∀ i, i < n → W.cell? ⟨ba, oa + i, none⟩ = some (.bool (f i)) from fun W hb i hi => by rw [hf]; exact HCA.out W hb i (by rw [← hna]; exact hi))
  rw [← hna, ← hk, ← hs, ← hnb]
  rw [← hna] at HCL hma h0 h5
  have HREL := Lib.hid (show ∀ W va vn, Bools W W.heap.size va (flipR r).accept → IntRows W W.heap.size vn r.next → RelAt W W.heap.size (.agg #[.int .i64 k, .int .i64 st, va, vn]) (flipR r) from fun W va vn h1 h2 => by rw [hk, hs]; exact ⟨va, vn, rfl, h1, h2⟩)
  rw [← hnb] at HNW
  have HBB := Lib.hid hB
  clear hk hs hna hnb hf HFL HLI HCA hca haa HAW hB
  have HC1 := Lib.hid (HCL.out ((w.alloc (.cells #[.int .i64 k, .int .i64 st, .slice (some ⟨ba, oa, none⟩) n ca, .slice ab nb cb] 27)).alloc (.cells #[Value.int .i64 0, .int .i64 0, .slice none 0 0, .slice none 0 0] 27)) (((Below.refl _ _).alloc (Nat.le_refl _) _).alloc (by rw [size_alloc']; omega) _))
  clear HCL
  go_enter Tryd.func69, Tryd.ntmps69
  go_wp2_with fail
  refine HC1.out.mono ?_
  rintro e w3 ⟨a3, c3, rfl, hl3, hb3⟩
  have hk3 : K0 w #[.int .i64 k, .int .i64 st, .slice (some ⟨ba, oa, none⟩) n ca, .slice ab nb cb] w3 := by
    have h1 := hb3
    rw [size_alloc', size_alloc'] at h1
    exact h1
  have HL3 := Lib.hid (show Lst w3 (w.heap.size + 1 + 1) 4 (.slice a3 n c3) (bvF n fun i => if i < 0 then !f i else f i) from by
    have h1 := hl3
    rw [size_alloc', size_alloc', HF1.out] at h1
    exact h1)
  have HK3 := Lib.hid hk3
  obtain ⟨g3, rfl, -⟩ := hl3.addr (by rw [HF1.out, bvF_length]; exact h0)
  have hbx := K0.box hk3
  have y2 := cells_get hbx 2
  simp at y2
  clear hl3 hb3 hk3 HC1 hbx
  go_wp2_with fail
  go_loopw [4, 5, 12] (fun _ _ s12 wr => ∃ i : Nat, i ≤ n ∧ s12 = .int .i64 i ∧ Lst wr (w.heap.size + 1 + 1) 4 (.slice (some ⟨g3, 0, none⟩) n c3) (bvF n fun q => if q < i then !f q else f q) ∧ K0 w #[.int .i64 k, .int .i64 st, .slice (some ⟨ba, oa, none⟩) n ca, .slice ab nb cb] wr) (fun _ _ s12 _ => n - (intOf s12).toNat)
  case atStart => exact ⟨0, Nat.zero_le _, rfl, HL3.out, HK3.out⟩
  case round =>
    obtain ⟨i, hi, rfl, hl, hk⟩ := hrel
    have HL := Lib.hid hl
    have HK := Lib.hid hk
    have hbx := K0.box hk
    clear hl HL3 HK3 y2
    by_cases hlt : i < n
    · have cA := HCB.out _ (K0.base hk) i hlt
      have f9 := HL.out.free i
      have hgl := HL.out.lt (k := g3) rfl
      have c9 := HL.out.cellOf (i := i) (by rw [bvF_length]; exact hlt)
      obtain ⟨x, hx⟩ : ∃ x, x = f i := ⟨_, rfl⟩
      rw [← hx] at cA
      have HX := Lib.hid hx
      clear hx hk hbx
      go_wp2_with fail
      go_roundw
      case rel =>
        have h1 := HL.out.set (i := i) (by rw [bvF_length]; exact hlt) (.bool (!x))
        rw [bvF_set, HX.out] at h1
        refine ⟨i + 1, hlt, by go_num, ?_, Below.setCell HK.out (by have := HL.out.ge (k := g3) rfl; show w.heap.size + 2 ≤ g3; omega) _⟩
        rw [show (fun q => if q < i + 1 then !f q else f q) = (fun q => if q = i then !f i else if q < i then !f q else f q) from funext fun q => by
          by_cases e : q = i
          · subst e; simp
          · have : (q < i + 1) = (q < i) := by apply propext; constructor <;> intro h <;> omega
            simp only [if_neg e, this]]
        first | exact h1 | (rw [HX.out]; exact h1)
      case measure => simp [intOf]; omega
    · obtain rfl : i = n := by omega
      have HLE := Lib.hid (show Lst wr (w.heap.size + 1 + 1) 4 (.slice (some ⟨g3, 0, none⟩) i c3) ((flipR r).accept.map Value.bool) from by
        have h1 := HL.out
        rw [bvF_congr (g := fun q => !f q) (fun q hq => by rw [if_pos hq]), HF2.out] at h1
        exact h1)
      have hres := K0.res hk
      have y0 := cells_get hbx 0
      have y1 := cells_get hbx 1
      have y3 := cells_get hbx 3
      have r0 := cells_get hres 0
      have r1 := cells_get hres 1
      have r2 := cells_get hres 2
      have r3 := cells_get hres 3
      have f0 := cells_free hres 0
      have f1 := cells_free hres 1
      have f2 := cells_free hres 2
      have f3 := cells_free hres 3
      have hlS := lt_of_block hres
      have hlx := lt_of_block hbx
      have p0 := cells_set hres 0 (.int .i64 k)
      have p1 := cells_set p0 1 (.int .i64 st)
      have p2 := cells_set p1 2 (.slice (some ⟨g3, 0, none⟩) i c3)
      have p3 := cells_set p2 3 (.slice ab nb cb)
      simp at y0 y1 y3 r0 r1 r2 r3 p3
      have g0 := cells_get p3 0
      have g1 := cells_get p3 1
      have g2 := cells_get p3 2
      have g3' := cells_get p3 3
      simp at g0 g1 g2 g3'
      have HG := Lib.hid (And.intro g0 (And.intro g1 (And.intro g2 g3')))
      clear p0 p1 p2 p3 g0 g1 g2 g3' hres hbx hk
      go_wp2_with fail
      obtain ⟨g0, g1, g2, g3'⟩ := HG.out
      have HBW := (((K0.base HK.out).setCell (p := ⟨w.heap.size + 1, 0, none⟩) (Nat.le_succ _) (.int .i64 k)).setCell (p := ⟨w.heap.size + 1, 1, none⟩) (Nat.le_succ _) (.int .i64 st)).setCell (p := ⟨w.heap.size + 1, 2, none⟩) (Nat.le_succ _) (.slice (some ⟨g3, 0, none⟩) i c3) |>.setCell (p := ⟨w.heap.size + 1, 3, none⟩) (Nat.le_succ _) (.slice ab nb cb)
      refine bodyPost_ret (v := .agg #[.int .i64 k, .int .i64 st, .slice (some ⟨g3, 0, none⟩) i c3, .slice ab nb cb]) (by simp [results, Tryd.results69, go_sem, g0, g1, g2, g3']) rfl ⟨.slice (some ⟨g3, 0, none⟩) i c3, .slice ab nb cb, rfl, ?_, HBW⟩
      have hne : (Value.slice (some ⟨g3, 0, none⟩) i c3).ownBlock ≠ some (w.heap.size + 1) := fun e => by have := HLE.out.ge e; omega
      refine HREL.out _ _ _ (lst_bools ((((HLE.out.setOther (a := ⟨w.heap.size + 1, 0, none⟩) hne _).setOther (a := ⟨w.heap.size + 1, 1, none⟩) hne _).setOther (a := ⟨w.heap.size + 1, 2, none⟩) hne _).setOther (a := ⟨w.heap.size + 1, 3, none⟩) hne _) _ (Nat.le_refl _)) ?_
      exact (HNW.out _ HBW).mono (Nat.le_trans HBB.out HBW.size)

set_option maxHeartbeats 8000000 in
theorem oppositeI (v : Value) (r : R) (hok : okB r = true) (w : World) (B : Nat) (h : RelAt w B v r) (hB : B ≤ w.heap.size) :
    Calls Tryd.prog 41 #[v] w fun e w' => ∃ va vn, e = .returned (.tuple #[.agg #[.int .i64 (fewK (flipL (toL r)) 150), .int .i64 0, va, vn], errV (fewB (flipL (toL r)) 150) 150]) ∧ Built w' w.heap.size va vn (fewA (flipL (toL r)) 150) (fewN (flipL (toL r)) 150) ∧ Below w.heap.size w w' := by
  have h1 := okL hok
  have h18 : r.accept.length = (toL r).acc.length := rfl
  have HFL := Lib.hid (fun W (hb : Below w.heap.size w W) => flippedI v r (by rw [h18]; exact Nat.lt_of_le_of_lt (Nat.zero_le _) h1.1.2.st) (by have := h1.2; omega) W B (h.below hb hB) (Nat.le_trans hB hb.size))
  have HTS := Lib.hid (fun W u (hu : RelAt W W.heap.size u (flipR r)) => tidyStepI (flipL (toL r)) (flipL_ok h1.1.2) u W W.heap.size (by rw [flip_rel h1.1.1]; exact hu) (Nat.le_refl _) (by have := h1.2; simp [flipL]; omega))
  obtain ⟨K, hK⟩ : ∃ K, K = fewK (flipL (toL r)) 150 := ⟨_, rfl⟩
  obtain ⟨A, hA⟩ : ∃ A, A = fewA (flipL (toL r)) 150 := ⟨_, rfl⟩
  obtain ⟨N, hN⟩ : ∃ N, N = fewN (flipL (toL r)) 150 := ⟨_, rfl⟩
  obtain ⟨Q, hQ⟩ : ∃ Q, Q = fewB (flipL (toL r)) 150 := ⟨_, rfl⟩
  rw [← hK, ← hA, ← hN, ← hQ] at HTS
  rw [← hK, ← hA, ← hN, ← hQ]
  clear hK hA hN hQ h1 h18 hok
  obtain ⟨va, vn, rfl, ha, hn⟩ := h
  obtain ⟨aa, ba, oa, ca, rfl, -, -, -⟩ := ha
  obtain ⟨-, ⟨ab, bb, ob, cb, rfl, -, -, -⟩, -⟩ := hn
  obtain ⟨k, hk⟩ : ∃ k, k = r.tapes := ⟨_, rfl⟩
  obtain ⟨st, hs⟩ : ∃ st, st = r.start := ⟨_, rfl⟩
  obtain ⟨na, hna⟩ : ∃ na, na = r.accept.length := ⟨_, rfl⟩
  obtain ⟨nb, hnb⟩ : ∃ nb, nb = r.next.length := ⟨_, rfl⟩
  rw [← hk, ← hs, ← hna, ← hnb] at HFL
  rw [← hk, ← hs, ← hna, ← hnb]
  have HT := Lib.hid (HFL.out ((w.alloc (.cells #[.int .i64 k, .int .i64 st, .slice aa na ca, .slice ab nb cb] 27)).alloc (.cells #[Value.int .i64 0, .int .i64 0, .slice none 0 0, .slice none 0 0] 27)) (((Below.refl _ _).alloc (Nat.le_refl _) _).alloc (by rw [size_alloc']; omega) _))
  clear hk hs hna hnb HFL hB
  go_enter Tryd.func41, Tryd.ntmps41
  go_wp2_with fail
  refine HT.out.mono ?_
  rintro e w2 ⟨va2, vn2, rfl, hr2, hb2⟩
  have hk2 : K0 w #[.int .i64 k, .int .i64 st, .slice aa na ca, .slice ab nb cb] w2 := by
    have h1 := hb2
    rw [size_alloc', size_alloc'] at h1
    exact h1
  have HK2 := Lib.hid hk2
  have HS2 := Lib.hid (HTS.out w2 _ hr2)
  obtain ⟨va2', vn2', e2, h2a, h2n⟩ := hr2
  simp at e2
  obtain ⟨-, -, rfl, rfl⟩ := e2
  obtain ⟨a2, -, -, c2, rfl, -, -, -⟩ := h2a
  obtain ⟨-, ⟨b2, -, -, d2, rfl, -, -, -⟩, -⟩ := h2n
  clear hb2 hk2 HT HTS
  go_wp2_with fail
  refine HS2.out.mono ?_
  rintro e w3 ⟨va, vn, rfl, hbu, hb3⟩
  have hk3 : K0 w #[.int .i64 k, .int .i64 st, .slice aa na ca, .slice ab nb cb] w3 := Below.trans HK2.out (hb3.mono (K0.size HK2.out))
  have HR3 := Lib.hid (show Res0 w (w.heap.size + 1) w3 from ⟨K0.base hk3, K0.res hk3, Nat.le_succ _⟩)
  have HB3 := Lib.hid (show Built w3 (w.heap.size + 1 + 1) va vn A N from hbu.mono (K0.size HK2.out))
  clear hb3 hbu hk3 HS2
  have hres := HR3.out.res
  obtain ⟨a7, n7, c7, rfl, -⟩ := HB3.out.acc.shape'
  obtain ⟨items7, -, hnx7, -⟩ := HB3.out.rows
  obtain ⟨b7, m7, d7, rfl, -⟩ := hnx7.shape'
  have r0 := cells_get hres 0
  have r1 := cells_get hres 1
  have r2 := cells_get hres 2
  have r3 := cells_get hres 3
  have f0 := cells_free hres 0
  have f1 := cells_free hres 1
  have f2 := cells_free hres 2
  have f3 := cells_free hres 3
  have hlS := HR3.out.lt
  have p0 := cells_set hres 0 (.int .i64 K)
  have p1 := cells_set p0 1 (.int .i64 0)
  have p2 := cells_set p1 2 (.slice a7 n7 c7)
  have p3 := cells_set p2 3 (.slice b7 m7 d7)
  simp at r0 r1 r2 r3 p3
  have g0 := cells_get p3 0
  have g1 := cells_get p3 1
  have g2 := cells_get p3 2
  have g3 := cells_get p3 3
  simp at g0 g1 g2 g3
  have HG := Lib.hid (And.intro g0 (And.intro g1 (And.intro g2 g3)))
  clear p0 p1 p2 p3 g0 g1 g2 g3 hres hnx7
  go_wp2_with fail
  obtain ⟨g0, g1, g2, g3⟩ := HG.out
  refine bodyPost_ret (v := .tuple #[.agg #[.int .i64 K, .int .i64 0, .slice a7 n7 c7, .slice b7 m7 d7], errV Q 150]) (by simp [results, Tryd.results41, go_sem, g0, g1, g2, g3]) rfl ⟨.slice a7 n7 c7, .slice b7 m7 d7, rfl, ?_, ?_⟩
  · exact (((((HB3.out.setLow (a := ⟨w.heap.size + 1, 0, none⟩) (Nat.lt_succ_self _) _).setLow (a := ⟨w.heap.size + 1, 1, none⟩) (Nat.lt_succ_self _) _).setLow (a := ⟨w.heap.size + 1, 2, none⟩) (Nat.lt_succ_self _) _).setLow (a := ⟨w.heap.size + 1, 3, none⟩) (Nat.lt_succ_self _) _).mono (by omega))
  · exact ((((HR3.out.base.setCell (p := ⟨w.heap.size + 1, 0, none⟩) HR3.out.hR _).setCell (p := ⟨w.heap.size + 1, 1, none⟩) HR3.out.hR _).setCell (p := ⟨w.heap.size + 1, 2, none⟩) HR3.out.hR _).setCell (p := ⟨w.heap.size + 1, 3, none⟩) HR3.out.hR _)

/-- An outcome: the relation, or nothing and the code of a limit. -/
theorem outcomeI (Q : Bool) (K : Int) (aa ab : Option Addr) (na ca nb cb : Nat) (n : Int) (w : World) (hg : Laid w) (B : Nat) (A : List Bool) (N : List (List Int)) (hbu : Built w B (.slice aa na ca) (.slice ab nb cb) A N) (h0 : Q = false → K = 0 ∧ A = [] ∧ N = []) :
    Calls Tryd.prog 40 #[.agg #[.int .i64 K, .int .i64 0, .slice aa na ca, .slice ab nb cb], errV Q n] w fun e w' => ∃ va vn, e = .returned (.tuple #[.agg #[.int .i64 K, .int .i64 0, va, vn], .int .i64 (if Q = true then 0 else 3)]) ∧ Built w' B va vn A N ∧ Below w.heap.size w w' := by
  cases Q with
  | true => exact (outcome_ok K aa ab na ca nb cb w).mono fun e w' ⟨he, hb⟩ => ⟨_, _, he, hbu.below hb, hb⟩
  | false =>
    obtain ⟨rfl, rfl, rfl⟩ := h0 rfl
    exact (outcome_no 0 aa ab na ca nb cb w n hg).mono fun e w' ⟨he, hb⟩ => ⟨_, _, he, ImplTidied.built_none _ _, hb⟩

def oppC (r : R) : Int := if okB r = true then (if fewB (flipL (toL r)) 150 = true then 0 else 3) else 1
def oppK (r : R) : Int := if okB r = true then fewK (flipL (toL r)) 150 else 0
def oppA (r : R) : List Bool := if okB r = true then fewA (flipL (toL r)) 150 else []
def oppN (r : R) : List (List Int) := if okB r = true then fewN (flipL (toL r)) 150 else []
theorem opp_of {r : R} (h : okB r = true) : oppK r = fewK (flipL (toL r)) 150 ∧ oppA r = fewA (flipL (toL r)) 150 ∧ oppN r = fewN (flipL (toL r)) 150 ∧ oppC r = if fewB (flipL (toL r)) 150 = true then 0 else 3 :=
  ⟨if_pos h, if_pos h, if_pos h, if_pos h⟩

set_option maxHeartbeats 8000000 in
theorem implOpposite (v : Value) (r : R) (w : World) (B : Nat) (h : RelAt w B v r) (hB : B ≤ w.heap.size) (hg : Laid w) :
    Calls Tryd.prog 13 #[v] w fun e w' => ∃ va vn, e = .returned (.tuple #[.agg #[.int .i64 (oppK r), .int .i64 0, va, vn], .int .i64 (oppC r)]) ∧ Built w' w.heap.size va vn (oppA r) (oppN r) ∧ Below w.heap.size w w' := by
  have HV := Lib.hid (fun W (hb : Below w.heap.size w W) (hs : w.heap.size ≤ W.heap.size) => ValidImpl.implValid v r W B (by
    obtain ⟨va, vn, rfl, ha, hx⟩ := h
    exact ⟨va, vn, rfl, ha.below hb hB, hx.below hb hB⟩) (Nat.le_trans hB hs))
  have HTT := Lib.hid (fun hok W (hb : Below w.heap.size w W) (hs : w.heap.size ≤ W.heap.size) => by
    have := oppositeI v r hok W B (h.below hb hB) (Nat.le_trans hB hs)
    rw [← (opp_of hok).1, ← (opp_of hok).2.1, ← (opp_of hok).2.2.1] at this
    exact this)
  have HCC := Lib.hid (fun hok : okB r = true => (opp_of hok).2.2.2)
  have HQ0 := Lib.hid (fun (hok : okB r = true) (hq : fewB (flipL (toL r)) 150 = false) => show oppK r = 0 ∧ oppA r = [] ∧ oppN r = [] from by
    rw [(opp_of hok).1, (opp_of hok).2.1, (opp_of hok).2.2.1]
    unfold fewK fewA fewN
    rw [hq]; exact ⟨rfl, rfl, rfl⟩)
  have HGL := Lib.hid (fun W (hb : Below w.heap.size w W) => hg.below hb)
  obtain ⟨Q, hQ⟩ : ∃ Q, Q = fewB (flipL (toL r)) 150 := ⟨_, rfl⟩
  rw [← hQ] at HTT HCC HQ0
  clear hQ hg
  have HE0 := Lib.hid (show okB r = false → oppK r = 0 ∧ oppC r = 1 ∧ oppA r = [] ∧ oppN r = [] from fun hok => by simp [oppC, oppK, oppA, oppN, hok])
  obtain ⟨va, vn, rfl, ha, hn⟩ := h
  obtain ⟨aa, ba, oa, ca, rfl, -, -, -⟩ := ha
  obtain ⟨-, ⟨ab, bb, ob, cb, rfl, -, -, -⟩, -⟩ := hn
  obtain ⟨K, hK⟩ : ∃ K, K = oppK r := ⟨_, rfl⟩
  obtain ⟨A, hA⟩ : ∃ A, A = oppA r := ⟨_, rfl⟩
  obtain ⟨N, hN⟩ : ∃ N, N = oppN r := ⟨_, rfl⟩
  obtain ⟨C, hC⟩ : ∃ C, C = oppC r := ⟨_, rfl⟩
  obtain ⟨k, hk⟩ : ∃ k, k = r.tapes := ⟨_, rfl⟩
  obtain ⟨st, hs⟩ : ∃ st, st = r.start := ⟨_, rfl⟩
  obtain ⟨na, hna⟩ : ∃ na, na = r.accept.length := ⟨_, rfl⟩
  obtain ⟨nb, hnb⟩ : ∃ nb, nb = r.next.length := ⟨_, rfl⟩
  rw [← hK, ← hA, ← hN, ← hk, ← hs, ← hna, ← hnb] at HTT
  rw [← hC] at HCC
  rw [← hK, ← hA, ← hN] at HQ0
  rw [← hk, ← hs, ← hna, ← hnb] at HV
  rw [← hK, ← hA, ← hN, ← hC] at HE0
  rw [← hK, ← hA, ← hN, ← hC, ← hk, ← hs, ← hna, ← hnb]
  have HV1 := Lib.hid (HV.out ((w.alloc (.cells #[.int .i64 k, .int .i64 st, .slice aa na ca, .slice ab nb cb] 27)).alloc (.cells #[Value.int .i64 0, .int .i64 0, .slice none 0 0, .slice none 0 0] 27)) (((Below.refl _ _).alloc (Nat.le_refl _) _).alloc (by rw [size_alloc']; omega) _) (by rw [size_alloc', size_alloc']; omega))
  clear hk hs hna hnb hK hA hN hC HV hB
  go_enter Tryd.func13, Tryd.ntmps13
  go_wp2_with fail
  refine HV1.out.mono ?_
  rintro e w3 ⟨rfl, hb3⟩
  have hk3 : K0 w #[.int .i64 k, .int .i64 st, .slice aa na ca, .slice ab nb cb] w3 := by
    have h1 := hb3
    rw [size_alloc', size_alloc'] at h1
    exact h1
  have HK3 := Lib.hid hk3
  have hres := K0.res hk3
  have hbx := K0.box hk3
  clear hb3 hk3 HV1
  cases hok : okB r with
  | false =>
    obtain ⟨rfl, rfl, rfl, rfl⟩ := HE0.out hok
    have r0 := cells_get hres 0
    have r1 := cells_get hres 1
    have r2 := cells_get hres 2
    have r3 := cells_get hres 3
    have f0 := cells_free hres 0
    have f1 := cells_free hres 1
    have f2 := cells_free hres 2
    have f3 := cells_free hres 3
    have hlS := lt_of_block hres
    have p0 := cells_set hres 0 (.int .i64 0)
    have p1 := cells_set p0 1 (.int .i64 0)
    have p2 := cells_set p1 2 (Value.slice none 0 0)
    have p3 := cells_set p2 3 (Value.slice none 0 0)
    simp at r0 r1 r2 r3 p3
    have g0 := cells_get p3 0
    have g1 := cells_get p3 1
    have g2 := cells_get p3 2
    have g3 := cells_get p3 3
    simp at g0 g1 g2 g3
    have HG := Lib.hid (And.intro g0 (And.intro g1 (And.intro g2 g3)))
    clear p0 p1 p2 p3 g0 g1 g2 g3 hres hok hbx HGL HQ0 HCC HTT
    go_wp2_with fail
    obtain ⟨g0, g1, g2, g3⟩ := HG.out
    refine bodyPost_ret (v := .tuple #[.agg #[.int .i64 0, .int .i64 0, .slice none 0 0, .slice none 0 0], .int .i64 1]) (by simp [results, Tryd.results13, go_sem, g0, g1, g2, g3]) rfl ⟨.slice none 0 0, .slice none 0 0, rfl, ImplTidied.built_none _ _, ?_⟩
    have HBW := K0.base HK3.out
    exact (((HBW.setCell (p := ⟨w.heap.size + 1, 0, none⟩) (Nat.le_succ _) _).setCell (p := ⟨w.heap.size + 1, 1, none⟩) (Nat.le_succ _) _).setCell (p := ⟨w.heap.size + 1, 2, none⟩) (Nat.le_succ _) _).setCell (p := ⟨w.heap.size + 1, 3, none⟩) (Nat.le_succ _) _
  | true =>
    have HT := Lib.hid (HTT.out hok w3 (K0.base HK3.out) (by have := K0.size HK3.out; omega))
    have r0 := cells_get hbx 0
    have r1 := cells_get hbx 1
    have r2 := cells_get hbx 2
    have r3 := cells_get hbx 3
    simp at r0 r1 r2 r3
    clear hres hbx HTT
    go_wp2_with fail
    refine HT.out.mono ?_
    rintro e w4' ⟨va, vn, rfl, hbu', hb4'⟩
    have HB4' := Lib.hid (show Below (w.heap.size + 2) w3 w4' from hb4'.mono (K0.size HK3.out))
    obtain ⟨a4', n4', c4', rfl, -⟩ := hbu'.acc.shape'
    obtain ⟨items0', -, hnx0', -⟩ := hbu'.rows
    obtain ⟨b4', m4', d4', rfl, -⟩ := hnx0'.shape'
    have HO := Lib.hid (outcomeI Q K a4' b4' n4' c4' m4' d4' 150 w4' (HGL.out _ (K0.base (Below.trans HK3.out HB4'.out))) w3.heap.size A N hbu' (HQ0.out hok))
    rw [← HCC.out hok] at HO
    have HB5' := Lib.hid hb4'
    have HS4 := Lib.hid (show w3.heap.size ≤ w4'.heap.size from hb4'.size)
    clear hbu' hb4' hnx0' HT r0 r1 r2 r3 HGL HQ0 HCC
    go_wp2_with fail
    refine HO.out.mono ?_
    rintro e w4 ⟨va, vn, rfl, hbu, hb4''⟩
    have hb4 : Below w3.heap.size w3 w4 := Below.trans (show Below w3.heap.size w3 w4' from HB5'.out) (hb4''.mono HS4.out)
    have HBU := Lib.hid hbu
    have HB4 := Lib.hid (show Below (w.heap.size + 2) w3 w4 from hb4.mono (K0.size HK3.out))
    obtain ⟨a4, n4, c4, rfl, -⟩ := hbu.acc.shape'
    obtain ⟨items0, -, hnx0, -⟩ := hbu.rows
    obtain ⟨b4, m4, d4, rfl, -⟩ := hnx0.shape'
    have hres := K0.res (Below.trans HK3.out HB4.out)
    clear hbu hb4 hb4'' hnx0 HO hok
    have r0 := cells_get hres 0
    have r1 := cells_get hres 1
    have r2 := cells_get hres 2
    have r3 := cells_get hres 3
    have f0 := cells_free hres 0
    have f1 := cells_free hres 1
    have f2 := cells_free hres 2
    have f3 := cells_free hres 3
    have hlS := lt_of_block hres
    have p0 := cells_set hres 0 (.int .i64 K)
    have p1 := cells_set p0 1 (.int .i64 0)
    have p2 := cells_set p1 2 (Value.slice a4 n4 c4)
    have p3 := cells_set p2 3 (Value.slice b4 m4 d4)
    simp at r0 r1 r2 r3 p3
    have g0 := cells_get p3 0
    have g1 := cells_get p3 1
    have g2 := cells_get p3 2
    have g3 := cells_get p3 3
    simp at g0 g1 g2 g3
    have HG := Lib.hid (And.intro g0 (And.intro g1 (And.intro g2 g3)))
    clear p0 p1 p2 p3 g0 g1 g2 g3 hres
    go_wp2_with fail
    obtain ⟨g0, g1, g2, g3⟩ := HG.out
    refine bodyPost_ret (v := .tuple #[.agg #[.int .i64 K, .int .i64 0, .slice a4 n4 c4, .slice b4 m4 d4], .int .i64 C]) (by simp [results, Tryd.results13, go_sem, g0, g1, g2, g3]) rfl ⟨.slice a4 n4 c4, .slice b4 m4 d4, rfl, ?_, ?_⟩
    · have hlow : w.heap.size + 1 < w3.heap.size := by have := K0.size HK3.out; omega
      exact (((((HBU.out.setLow (a := ⟨w.heap.size + 1, 0, none⟩) hlow _).setLow (a := ⟨w.heap.size + 1, 1, none⟩) hlow _).setLow (a := ⟨w.heap.size + 1, 2, none⟩) hlow _).setLow (a := ⟨w.heap.size + 1, 3, none⟩) hlow _).mono (by omega))
    · have HBW := K0.base (Below.trans HK3.out HB4.out)
      exact (((HBW.setCell (p := ⟨w.heap.size + 1, 0, none⟩) (Nat.le_succ _) _).setCell (p := ⟨w.heap.size + 1, 1, none⟩) (Nat.le_succ _) _).setCell (p := ⟨w.heap.size + 1, 2, none⟩) (Nat.le_succ _) _).setCell (p := ⟨w.heap.size + 1, 3, none⟩) (Nat.le_succ _) _
end Go.Proofs.YthebmpdkiocbmaaDoor.OppImpl
