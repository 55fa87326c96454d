
/- What the program's RestrictFunction hands back.
   Conditions: the relations are read as XRel's text says. -/
import Derived.Test.YtcpcbmappcndcaaGreatDoorRF1
import Derived.Deep.RegionHeld3
import Derived.Deep.DrawnRows
import Derived.Test.YtcpcbmappcndcaaGreatDoorRB4
import Derived.Lib.SmallJoins
import Derived.Deep.Matrix
import Derived.Deep.Grids
namespace Go.Proofs.YtcpcbmappcndcaaGreatDoor.RstFn
set_option linter.unusedVariables false
set_option linter.unusedSimpArgs false
set_option linter.ambiguousOpen false
set_option maxRecDepth 100000
open Go.RowKit Mem Copy Rel Valid Heap Bld Columns TidyMath TidyAuto TidyRight SpecFiner SpecRight ToL SpecTidyRel ImplRight ImplTidied ErrCode OppImpl PairMath PairsI JoinI TwoImpl StepI StepsI TapeFn AddFn PairSwap RstI

/-- The two steps are not too great. -/
noncomputable def rstQ (f d : R) : Bool := rstB d && joinB and2 (toL f) (rstL d)
theorem rst_code {f d : R} (h : rstC f d = 0) : rstV f d = (if rstQ f d = true then 0 else 3) ∧ (rstQ f d = false → rstK f d = 0 ∧ rstA f d = [] ∧ rstN f d = []) := by
  unfold rstQ
  cases hb : rstB d with
  | false =>
    obtain ⟨e1, e2, e3, e4⟩ := rst_many h hb
    exact ⟨e1, fun _ => ⟨e2, e3, e4⟩⟩
  | true =>
    obtain ⟨e1, e2, e3, e4⟩ := rst_yes h hb
    obtain ⟨a1, a2, -⟩ := rst_alike h hb
    obtain ⟨t1, t2, t3, t4⟩ := two_yes (t := and2) a1
    rw [a2] at t1 t2 t3 t4
    rw [e1, t4]
    refine ⟨by rw [Bool.true_and], fun hq => ?_⟩
    rw [Bool.true_and] at hq
    rw [e2, e3, e4, t1, t2, t3]
    exact join_no hq
theorem rst_join {f d : R} (h : rstC f d = 0) (hb : rstB d = true) : joinK and2 (rstL d) (toL f) = rstK f d ∧ joinB and2 (rstL d) (toL f) = rstQ f d ∧ joinA and2 (rstL d) (toL f) = rstA f d ∧ joinN and2 (rstL d) (toL f) = rstN f d := by
  obtain ⟨e1, e2, e3, e4⟩ := rst_yes h hb
  obtain ⟨a1, a2, -⟩ := rst_alike h hb
  obtain ⟨t1, t2, t3, t4⟩ := two_yes (t := and2) a1
  obtain ⟨o1, o2, o3, o4⟩ := rst_ok h
  rw [a2] at t1 t2 t3 t4
  have hkk : (rstL d).k = (toL f).k := by show (addL d 1).k = f.tapes.toNat; rw [(rst_add h).2.1, o3]; rfl
  obtain ⟨s1, s2, s3, s4⟩ := join_swap (tidL_ok (rst_add h).1) (okL o1).1.2 hkk
  rw [e2, e3, e4, t1, t2, t3, s2, s3, s4, s1]
  refine ⟨rfl, ?_, rfl, rfl⟩
  unfold rstQ
  rw [hb, Bool.true_and]

set_option maxHeartbeats 16000000 in
theorem implRst (v u : Value) (f d : R) (w : World) (B : Nat) (h : RelAt w B v f) (h' : RelAt w B u d) (hB : B ≤ w.heap.size) (hg : Laid w) :
    Calls Tryz.prog 23 #[v, u] w fun e w' => ∃ va vn, e = .returned (.tuple #[.agg #[.int .i64 (rstK f d), .int .i64 0, va, vn], .int .i64 (rstV f d)]) ∧ Built w' w.heap.size va vn (rstA f d) (rstN f d) ∧ Below w.heap.size w w' := by
  have hR := h.mono hB
  have hR' := h'.mono hB
  have HGL := Lib.hid (fun W (hb : Below w.heap.size w W) => hg.below hb)
  have HN0 := Lib.hid (fun h0 => rst_no (f := f) (d := d) h0)
  have HCO := Lib.hid (fun h0 => rst_code (f := f) (d := d) h0)
  have HJN := Lib.hid (fun h0 hb0 => rst_join (f := f) (d := d) h0 hb0)
  have HADD := Lib.hid (fun h0 => rst_add (f := f) (d := d) h0)
  have HOK := Lib.hid (fun h0 => rst_ok (f := f) (d := d) h0)
  obtain ⟨va, vn, rfl, ha, hx⟩ := h
  obtain ⟨aa, ba, oa, ca, rfl, -, -, -⟩ := ha
  obtain ⟨-, ⟨ab, bb, ob, cb, rfl, -, -, -⟩, -⟩ := hx
  obtain ⟨va2, vn2, rfl, ha2, hx2⟩ := h'
  obtain ⟨a2, ba2, oa2, c2, rfl, -, -, -⟩ := ha2
  obtain ⟨-, ⟨b2, bb2, ob2, d2, rfl, -, -, -⟩, -⟩ := hx2
  obtain ⟨k, hk⟩ : ∃ k : Int, k = f.tapes := ⟨_, rfl⟩
  obtain ⟨st, hs⟩ : ∃ st : Int, st = f.start := ⟨_, rfl⟩
  obtain ⟨na, hna⟩ : ∃ na, na = f.accept.length := ⟨_, rfl⟩
  obtain ⟨nb, hnb⟩ : ∃ nb, nb = f.next.length := ⟨_, rfl⟩
  obtain ⟨k2, hk2⟩ : ∃ k : Int, k = d.tapes := ⟨_, rfl⟩
  obtain ⟨s2, hs2⟩ : ∃ st : Int, st = d.start := ⟨_, rfl⟩
  obtain ⟨n2, hn2⟩ : ∃ na, na = d.accept.length := ⟨_, rfl⟩
  obtain ⟨m2, hm2⟩ : ∃ nb, nb = d.next.length := ⟨_, rfl⟩
  rw [← hk, ← hs, ← hna, ← hnb] at hR
  rw [← hk2, ← hs2, ← hn2, ← hm2] at hR'
  rw [← hk, ← hs, ← hna, ← hnb, ← hk2, ← hs2, ← hn2, ← hm2]
  have HGR := Lib.hid (fun W (hb : Below w.heap.size w W) => (show Calls Tryz.prog 50 #[.agg #[.int .i64 k2, .int .i64 s2, .slice a2 n2 c2, .slice b2 m2 d2], .slice (some ⟨W.heap.size, 0, none⟩) 1 1] (W.alloc (.cells #[.int .i64 k, .int .i64 st, .slice aa na ca, .slice ab nb cb] 27)) (fun e w' => e = .returned (.int .i64 (rstC f d)) ∧ Below (W.alloc (.cells #[.int .i64 k, .int .i64 st, .slice aa na ca, .slice ab nb cb] 27)).heap.size (W.alloc (.cells #[.int .i64 k, .int .i64 st, .slice aa na ca, .slice ab nb cb] 27)) w') from by
    have hb2 : Below w.heap.size w (W.alloc (.cells #[.int .i64 k, .int .i64 st, .slice aa na ca, .slice ab nb cb] 27)) := hb.alloc hb.size _
    exact graphI k st aa ab na ca nb cb k2 s2 a2 b2 n2 c2 m2 d2 f d _ ((hR.below hb2 (Nat.le_refl _)).mono hb2.size) ((hR'.below hb2 (Nat.le_refl _)).mono hb2.size) hk hk2 _ (heap_alloc_new _ _)))
  have HIN := Lib.hid (fun (h0 : rstC f d = 0) W (hb : Below w.heap.size w W) bT b1 b2' (hT : TF W bT) (hJ : JF W #[.int .i64 k, .int .i64 st, .slice aa na ca, .slice ab nb cb] b1 b2') => (show Calls Tryz.prog 46 #[.agg #[.int .i64 k2, .int .i64 s2, .slice a2 n2 c2, .slice b2 m2 d2], .slice (some ⟨W.heap.size, 0, none⟩) 2 2] (W.alloc (.cells #[.func (.func 83) #[] #[.pointer (some ⟨bT, 0, none⟩)], .func (.func 85) #[] #[.pointer (some ⟨b1, 0, none⟩), .pointer (some ⟨b2', 0, none⟩)]] 51)) (fun e w' => ∃ va vn, ∃ n : Int, e = .returned (.tuple #[.agg #[.int .i64 (rstK f d), .int .i64 0, va, vn], errV (rstQ f d) n]) ∧ Built w' W.heap.size va vn (rstA f d) (rstN f d) ∧ Below W.heap.size W w') from by
    obtain ⟨o1, o2, o3, o4⟩ := rst_ok h0
    obtain ⟨d1, d2', d3, d4⟩ := rst_add h0
    obtain ⟨W', hW'⟩ : ∃ W', W' = W.alloc (.cells #[.func (.func 83) #[] #[.pointer (some ⟨bT, 0, none⟩)], .func (.func 85) #[] #[.pointer (some ⟨b1, 0, none⟩), .pointer (some ⟨b2', 0, none⟩)]] 51) := ⟨_, rfl⟩
    rw [← hW']
    have hbW : Below W.heap.size W W' := by rw [hW']; exact (Below.refl _ _).alloc (Nat.le_refl _) _
    have hcl : W'.heap[W.heap.size]? = some (.cells #[.func (.func 83) #[] #[.pointer (some ⟨bT, 0, none⟩)], .func (.func 85) #[] #[.pointer (some ⟨b1, 0, none⟩), .pointer (some ⟨b2', 0, none⟩)]] 51 (0, 0)) := by rw [hW']; exact heap_alloc_new _ _
    have hbw : Below w.heap.size w W' := hb.trans (hbW.mono hb.size)
    have ekd : (toL d).k = 1 := by show d.tapes.toNat = 1; rw [o4]; rfl
    refine (inSteps2 (fewK (addL d 1) 150) (fewA (addL d 1) 150) (fewN (addL d 1) 150) (rstB d) (rstK f d) (rstA f d) (rstN f d) (rstQ f d) k2 s2 a2 b2 n2 c2 m2 d2 W' 83 85 #[.pointer (some ⟨bT, 0, none⟩)] #[.pointer (some ⟨b1, 0, none⟩), .pointer (some ⟨b2', 0, none⟩)] (fun _ _ => rfl) (fun _ _ => rfl) W.heap.size (by rw [cells_get hcl]; rfl) (by rw [cells_get hcl]; rfl) (lt_of_block hcl)
      (fun X hX => ?_) (fun hb0 X x y hX hrx => ?_) (fun hq => by unfold rstQ; rw [hq]; rfl) (rst_code h0).2).mono ?_
    · have hTX := (hT.below hbW).below hX
      have hh := tapeStepI (toL d) (okL o2).1.2 (by omega) 1 (by omega) (.agg #[.int .i64 k2, .int .i64 s2, .slice a2 n2 c2, .slice b2 m2 d2]) X X.heap.size (by rw [(okL o2).1.1]; exact (hR'.below (hbw.trans (hX.mono hbw.size)) (Nat.le_refl _)).mono (hbw.trans (hX.mono hbw.size)).size) (Nat.le_refl _) (by have := (okL o2).2; omega) bT hTX.1 hTX.2
      exact hh
    · have hJX := (hJ.below hbW).below hX
      have hFX : RelAt X X.heap.size (.agg #[.int .i64 k, .int .i64 st, .slice aa na ca, .slice ab nb cb]) f := (hR.below (hbw.trans (hX.mono hbw.size)) (Nat.le_refl _)).mono (hbw.trans (hX.mono hbw.size)).size
      have e : (⟨fewK (addL d 1) 150, 0, fewA (addL d 1) 150, fewN (addL d 1) 150⟩ : R) = relOf (rstL d) := by
        rw [tidL_rel]
        unfold fewK fewA fewN
        rw [show fewB (addL d 1) 150 = true from hb0]
        rfl
      rw [e] at hrx
      obtain ⟨j1, j2, j3, j4⟩ := rst_join h0 hb0
      have hkk : (rstL d).k = (toL f).k := by show (addL d 1).k = f.tapes.toNat; rw [d2', o3]; rfl
      have hh := joinStepI (rstL d) (toL f) (tidL_ok d1) (okL o1).1.2 hkk (by have : fewB (addL d 1) 150 = true := hb0; have := of_decide_eq_true this; show (tidyAcc (addL d 1)).length ≤ 1000; omega) (by have := (okL o1).2; omega) _ _ _ _ _ X hrx (by rw [(okL o1).1.1]; exact hFX) b1 b2' hJX.1 hJX.2.1 hJX.2.2
      rw [j1, j2, j3, j4] at hh
      exact hh
    · rintro e w' ⟨va, vn, n, rfl, hbu, hb'⟩
      exact ⟨va, vn, n, rfl, hbu.mono hbW.size, hbW.trans (hb'.mono hbW.size)⟩))
  obtain ⟨C0, hC0⟩ : ∃ y, y = rstC f d := ⟨_, rfl⟩
  obtain ⟨cC, hcC⟩ : ∃ y, y = rstV f d := ⟨_, rfl⟩
  obtain ⟨cK, hcK⟩ : ∃ y, y = rstK f d := ⟨_, rfl⟩
  obtain ⟨cA, hcA⟩ : ∃ y, y = rstA f d := ⟨_, rfl⟩
  obtain ⟨cN, hcN⟩ : ∃ y, y = rstN f d := ⟨_, rfl⟩
  obtain ⟨Q, hQ⟩ : ∃ y, y = rstQ f d := ⟨_, rfl⟩
  rw [← hC0, ← hcC, ← hcK, ← hcA, ← hcN] at HN0
  rw [← hC0, ← hcC, ← hcK, ← hcA, ← hcN, ← hQ] at HCO
  rw [← hC0, ← hcK, ← hcA, ← hcN, ← hQ] at HIN
  rw [← hC0] at HGR
  rw [← hcC, ← hcK, ← hcA, ← hcN]
  have HTC := Lib.hid (fun W => tapeC W)
  have HJC := Lib.hid (fun W => joinC k st aa ab na ca nb cb W)
  have HK0 := Lib.hid (show K3 w #[.int .i64 k, .int .i64 st, .slice aa na ca, .slice ab nb cb] #[.int .i64 k2, .int .i64 s2, .slice a2 n2 c2, .slice b2 m2 d2] (((w.alloc (.cells #[.int .i64 k, .int .i64 st, .slice aa na ca, .slice ab nb cb] 27)).alloc (.cells #[.int .i64 k2, .int .i64 s2, .slice a2 n2 c2, .slice b2 m2 d2] 27)).alloc (.cells #[Value.int .i64 0, .int .i64 0, .slice none 0 0, .slice none 0 0] 27)) from Below.refl _ _)
  have HST := Lib.hid (fun W W' (h : K3 w #[.int .i64 k, .int .i64 st, .slice aa na ca, .slice ab nb cb] #[.int .i64 k2, .int .i64 s2, .slice a2 n2 c2, .slice b2 m2 d2] W) (hb : Below W.heap.size W W') => (show K3 w #[.int .i64 k, .int .i64 st, .slice aa na ca, .slice ab nb cb] #[.int .i64 k2, .int .i64 s2, .slice a2 n2 c2, .slice b2 m2 d2] W' from Below.trans h (hb.mono (K3.size h))))
  obtain ⟨W1, hW1⟩ : ∃ W, W = (((w.alloc (.cells #[.int .i64 k, .int .i64 st, .slice aa na ca, .slice ab nb cb] 27)).alloc (.cells #[.int .i64 k2, .int .i64 s2, .slice a2 n2 c2, .slice b2 m2 d2] 27)).alloc (.cells #[Value.int .i64 0, .int .i64 0, .slice none 0 0, .slice none 0 0] 27)) := ⟨_, rfl⟩
  rw [← hW1] at HK0
  have HV1 := Lib.hid (HGR.out W1 (K3.base HK0.out))
  have HW1 := Lib.hid hW1
  have x0 := cells_get (K3.box1 HK0.out) 0
  have x1 := cells_get (K3.box1 HK0.out) 1
  have x2 := cells_get (K3.box1 HK0.out) 2
  have x3 := cells_get (K3.box1 HK0.out) 3
  have y0 := cells_get (K3.box2 HK0.out) 0
  have y1 := cells_get (K3.box2 HK0.out) 1
  have y2 := cells_get (K3.box2 HK0.out) 2
  have y3 := cells_get (K3.box2 HK0.out) 3
  have lx := lt_of_block (K3.box1 HK0.out)
  have ly := lt_of_block (K3.box2 HK0.out)
  simp at x0 x1 x2 x3 y0 y1 y2 y3
  clear hC0 hcC hcK hcA hcN hQ hk hs hna hnb hk2 hs2 hn2 hm2 hR hR' hB hg HGR hW1 HJN HADD HOK
  go_enter Tryz.func23, Tryz.ntmps23
  go_upto_region 1 with fail
  rw [← HW1.out]
  go_wp2_with fail
  refine HV1.out.mono ?_
  rintro e w3 ⟨rfl, hb3⟩
  have HK3 := Lib.hid (HST.out _ _ (HST.out _ _ HK0.out ((Below.refl _ W1).alloc (Nat.le_refl _) (.cells #[.int .i64 k, .int .i64 st, .slice aa na ca, .slice ab nb cb] 27))) hb3)
  clear hb3 HV1 HW1 x0 x1 x2 x3 y0 y1 y2 y3 lx ly HK0
  have r0 := cells_get (K3.res HK3.out) 0
  have r1 := cells_get (K3.res HK3.out) 1
  have r2 := cells_get (K3.res HK3.out) 2
  have r3 := cells_get (K3.res HK3.out) 3
  have f0 := cells_free (K3.res HK3.out) 0
  have f1 := cells_free (K3.res HK3.out) 1
  have f2 := cells_free (K3.res HK3.out) 2
  have f3 := cells_free (K3.res HK3.out) 3
  have hlS := lt_of_block (K3.res HK3.out)
  have x0 := cells_get (K3.box1 HK3.out) 0
  have x1 := cells_get (K3.box1 HK3.out) 1
  have x2 := cells_get (K3.box1 HK3.out) 2
  have x3 := cells_get (K3.box1 HK3.out) 3
  have y0 := cells_get (K3.box2 HK3.out) 0
  have y1 := cells_get (K3.box2 HK3.out) 1
  have y2 := cells_get (K3.box2 HK3.out) 2
  have y3 := cells_get (K3.box2 HK3.out) 3
  have lx := lt_of_block (K3.box1 HK3.out)
  have ly := lt_of_block (K3.box2 HK3.out)
  simp at r0 r1 r2 r3 x0 x1 x2 x3 y0 y1 y2 y3
  by_cases h0 : C0 = 0
  · obtain ⟨eC, eZ⟩ := HCO.out h0
    have HC := Lib.hid eC
    have HZ := Lib.hid eZ
    have HI1 := Lib.hid (HIN.out h0)
    subst h0
    clear HN0 HCO HIN eC eZ
    have HS := Lib.hid (fun W (h : K3 w #[.int .i64 k, .int .i64 st, .slice aa na ca, .slice ab nb cb] #[.int .i64 k2, .int .i64 s2, .slice a2 n2 c2, .slice b2 m2 d2] W) => (show W.cell? ⟨w.heap.size, 0, none⟩ = some (.int .i64 k) ∧ W.cell? ⟨w.heap.size, 1, none⟩ = some (.int .i64 st) ∧ W.cell? ⟨w.heap.size, 2, none⟩ = some (.slice aa na ca) ∧ W.cell? ⟨w.heap.size, 3, none⟩ = some (.slice ab nb cb) ∧ W.cell? ⟨w.heap.size + 1, 0, none⟩ = some (.int .i64 k2) ∧ W.cell? ⟨w.heap.size + 1, 1, none⟩ = some (.int .i64 s2) ∧ W.cell? ⟨w.heap.size + 1, 2, none⟩ = some (.slice a2 n2 c2) ∧ W.cell? ⟨w.heap.size + 1, 3, none⟩ = some (.slice b2 m2 d2) from
      ⟨by rw [cells_get (K3.box1 h)]; rfl, by rw [cells_get (K3.box1 h)]; rfl, by rw [cells_get (K3.box1 h)]; rfl, by rw [cells_get (K3.box1 h)]; rfl, by rw [cells_get (K3.box2 h)]; rfl, by rw [cells_get (K3.box2 h)]; rfl, by rw [cells_get (K3.box2 h)]; rfl, by rw [cells_get (K3.box2 h)]; rfl⟩))
    have HS2 := Lib.hid (fun W (h : K3 w #[.int .i64 k, .int .i64 st, .slice aa na ca, .slice ab nb cb] #[.int .i64 k2, .int .i64 s2, .slice a2 n2 c2, .slice b2 m2 d2] W) (q0 q1 q2 q3 : Value) => (show (set4 W (w.heap.size + 1 + 1) q0 q1 q2 q3).cell? ⟨w.heap.size, 0, none⟩ = some (.int .i64 k) ∧ (set4 W (w.heap.size + 1 + 1) q0 q1 q2 q3).cell? ⟨w.heap.size, 1, none⟩ = some (.int .i64 st) ∧ (set4 W (w.heap.size + 1 + 1) q0 q1 q2 q3).cell? ⟨w.heap.size, 2, none⟩ = some (.slice aa na ca) ∧ (set4 W (w.heap.size + 1 + 1) q0 q1 q2 q3).cell? ⟨w.heap.size, 3, none⟩ = some (.slice ab nb cb) ∧ (set4 W (w.heap.size + 1 + 1) q0 q1 q2 q3).cell? ⟨w.heap.size + 1, 0, none⟩ = some (.int .i64 k2) ∧ (set4 W (w.heap.size + 1 + 1) q0 q1 q2 q3).cell? ⟨w.heap.size + 1, 1, none⟩ = some (.int .i64 s2) ∧ (set4 W (w.heap.size + 1 + 1) q0 q1 q2 q3).cell? ⟨w.heap.size + 1, 2, none⟩ = some (.slice a2 n2 c2) ∧ (set4 W (w.heap.size + 1 + 1) q0 q1 q2 q3).cell? ⟨w.heap.size + 1, 3, none⟩ = some (.slice b2 m2 d2) from by
      have n1 : w.heap.size ≠ w.heap.size + 1 + 1 := by omega
      have n2' : w.heap.size + 1 ≠ w.heap.size + 1 + 1 := by omega
      have e1 : (set4 W (w.heap.size + 1 + 1) q0 q1 q2 q3).heap[w.heap.size]? = W.heap[w.heap.size]? := by
        rw [Below.heap_setCell _ _ _ _ n1, Below.heap_setCell _ _ _ _ n1, Below.heap_setCell _ _ _ _ n1, Below.heap_setCell _ _ _ _ n1]
      have e2 : (set4 W (w.heap.size + 1 + 1) q0 q1 q2 q3).heap[w.heap.size + 1]? = W.heap[w.heap.size + 1]? := by
        rw [Below.heap_setCell _ _ _ _ n2', Below.heap_setCell _ _ _ _ n2', Below.heap_setCell _ _ _ _ n2', Below.heap_setCell _ _ _ _ n2']
      have b1 := e1.trans (K3.box1 h)
      have b2' := e2.trans (K3.box2 h)
      exact ⟨by rw [cells_get b1]; rfl, by rw [cells_get b1]; rfl, by rw [cells_get b1]; rfl, by rw [cells_get b1]; rfl, by rw [cells_get b2']; rfl, by rw [cells_get b2']; rfl, by rw [cells_get b2']; rfl, by rw [cells_get b2']; rfl⟩))
    have HKD := Lib.hid (show K3 w #[.int .i64 k, .int .i64 st, .slice aa na ca, .slice ab nb cb] #[.int .i64 k2, .int .i64 s2, .slice a2 n2 c2, .slice b2 m2 d2] w3.drew from below_drewN HK3.out 1)
    clear r0 r1 r2 r3 f0 f1 f2 f3 hlS x0 x1 x2 x3 y0 y1 y2 y3 lx ly
    obtain ⟨x0, x1, x2, x3, y0, y1, y2, y3⟩ := HS.out _ HKD.out
    go_upto_region 4 with fail
    go_region_held3 (fun w' => w'.cell? ⟨w.heap.size, 0, none⟩ = some (.int .i64 k) ∧ w'.cell? ⟨w.heap.size, 1, none⟩ = some (.int .i64 st) ∧ w'.cell? ⟨w.heap.size, 2, none⟩ = some (.slice aa na ca) ∧ w'.cell? ⟨w.heap.size, 3, none⟩ = some (.slice ab nb cb) ∧ w'.cell? ⟨w.heap.size + 1, 0, none⟩ = some (.int .i64 k2) ∧ w'.cell? ⟨w.heap.size + 1, 1, none⟩ = some (.int .i64 s2) ∧ w'.cell? ⟨w.heap.size + 1, 2, none⟩ = some (.slice a2 n2 c2) ∧ w'.cell? ⟨w.heap.size + 1, 3, none⟩ = some (.slice b2 m2 d2))
      (first | exact HS.out _ HKD.out | exact HS.out _ HKT.out | exact HS.out _ HKJ.out | exact HS.out _ HK6.out | exact HS.out _ HK7.out | exact HS2.out _ HK7.out _ _ _ _ | exact HS.out _ (HST.out _ _ HKT.out ((Below.refl _ _).alloc (Nat.le_refl _) _)) | exact HS.out _ (HST.out _ _ HKJ.out ((Below.refl _ _).alloc (Nat.le_refl _) _)) | go_keep)
      (first
        | (go_at_call 51; refine (HTC.out _).mono ?_; rintro e wT ⟨bT, rfl, hT, hbT⟩; have HKT : Hid (K3 w #[.int .i64 k, .int .i64 st, .slice aa na ca, .slice ab nb cb] #[.int .i64 k2, .int .i64 s2, .slice a2 n2 c2, .slice b2 m2 d2] wT) := (by first | exact Lib.hid (HST.out _ _ HKJ.out hbT) | exact Lib.hid (HST.out _ _ HKD.out hbT)); have HT1 := Lib.hid hT; (first | have HJ2 := Lib.hid (HJ1.out.below hbT) | skip); clear hT hbT)
        | (go_at_call 52; refine (HJC.out _).mono ?_; rintro e wJ ⟨bJ1, bJ2, rfl, hJ, hbJ⟩; have HKJ : Hid (K3 w #[.int .i64 k, .int .i64 st, .slice aa na ca, .slice ab nb cb] #[.int .i64 k2, .int .i64 s2, .slice a2 n2 c2, .slice b2 m2 d2] wJ) := (by first | exact Lib.hid (HST.out _ _ HKT.out hbJ) | exact Lib.hid (HST.out _ _ HKD.out hbJ)); have HJ1 := Lib.hid hJ; (first | have HT2 := Lib.hid (HT1.out.below hbJ) | skip); clear hJ hbJ)
        | (go_at_call 45; refine HO.out.mono ?_; rintro e w7 ⟨va7, vn7, rfl, hbu, hb7⟩; have HBU := Lib.hid hbu; obtain ⟨a5, n5', c5, rfl, -⟩ := hbu.acc.shape'; obtain ⟨items5, -, hnx5, -⟩ := hbu.rows; obtain ⟨b5, m5, d5, rfl, -⟩ := hnx5.shape'; have HK7 := Lib.hid (HST.out _ _ HK6.out hb7); have r0 := cells_get (K3.res HK7.out) 0; have r1 := cells_get (K3.res HK7.out) 1; have r2 := cells_get (K3.res HK7.out) 2; have r3 := cells_get (K3.res HK7.out) 3; have f0 := cells_free (K3.res HK7.out) 0; have f1 := cells_free (K3.res HK7.out) 1; have f2 := cells_free (K3.res HK7.out) 2; have f3 := cells_free (K3.res HK7.out) 3; have hlS := lt_of_block (K3.res HK7.out); simp at r0 r1 r2 r3; clear hbu hb7 hnx5 HO)
        | (go_at_call 46; (first | refine (HI1.out wT (K3.base HKT.out) bT bJ1 bJ2 HT1.out HJ2.out).mono ?_ | refine (HI1.out wJ (K3.base HKJ.out) bT bJ1 bJ2 HT2.out HJ1.out).mono ?_); rintro e w6 ⟨va6, vn6, n6, rfl, hbu, hb6⟩; have HK6 : Hid (K3 w #[.int .i64 k, .int .i64 st, .slice aa na ca, .slice ab nb cb] #[.int .i64 k2, .int .i64 s2, .slice a2 n2 c2, .slice b2 m2 d2] w6) := (by first | exact Lib.hid (HST.out _ _ HKT.out hb6) | exact Lib.hid (HST.out _ _ HKJ.out hb6)); have HB6 : Hid (Built w6 (w.heap.size + 3) va6 vn6 cA cN) := (by first | exact Lib.hid (hbu.mono (K3.size HKT.out)) | exact Lib.hid (hbu.mono (K3.size HKJ.out))); obtain ⟨a4, n4, c4, rfl, -⟩ := hbu.acc.shape'; obtain ⟨items4, -, hnx4, -⟩ := hbu.rows; obtain ⟨b4, m4, d4, rfl, -⟩ := hnx4.shape'; have HO := Lib.hid (OppImpl.outcomeI Q cK a4 b4 n4 c4 m4 d4 n6 w6 (HGL.out _ (K3.base HK6.out)) (w.heap.size + 3) cA cN HB6.out HZ.out); rw [← HC.out] at HO; clear hbu hb6 hnx4))
    all_goals
      go_wp2_with fail
      obtain ⟨g0, g1, g2, g3⟩ := res4 (a := .int .i64 cK) (b := .int .i64 0) (c := .slice a5 n5' c5) (d := .slice b5 m5 d5) (K3.res HK7.out)
      refine bodyPost_ret (v := .tuple #[.agg #[.int .i64 cK, .int .i64 0, .slice a5 n5' c5, .slice b5 m5 d5], .int .i64 cC]) (by simp [results, Tryz.results23, go_sem, g0, g1, g2, g3]) rfl ⟨.slice a5 n5' c5, .slice b5 m5 d5, rfl, ?_, ?_⟩
      · exact (set4_built HBU.out (by omega)).mono (by omega)
      · exact set4_below (K3.base HK7.out) (by omega)
  · obtain ⟨rfl, rfl, rfl, rfl⟩ := HN0.out h0
    have hcne : (cC != 0) = true := by simpa using h0
    clear HN0 HCO HIN HGL
    go_wp2_with fail
    obtain ⟨g0, g1, g2, g3⟩ := res4 (a := .int .i64 0) (b := .int .i64 0) (c := .slice none 0 0) (d := .slice none 0 0) (K3.res HK3.out)
    refine bodyPost_ret (v := .tuple #[.agg #[.int .i64 0, .int .i64 0, .slice none 0 0, .slice none 0 0], .int .i64 cC]) (by simp [results, Tryz.results23, go_sem, g0, g1, g2, g3]) rfl ⟨.slice none 0 0, .slice none 0 0, rfl, ImplTidied.built_none _ _, ?_⟩
    exact set4_below (K3.base HK3.out) (by omega)
end Go.Proofs.YtcpcbmappcndcaaGreatDoor.RstFn
/- How the arguments of the laws read in memory: relations, lists of numbers.
   Conditions: none. -/
namespace Go.Proofs.YtcpcbmappcndcaaGreatDoor.Readings
set_option linter.unusedVariables false
set_option maxRecDepth 20000
set_option linter.unusedSimpArgs false
open Go.RowKit Mem Rel Go.Joins Go.Deep Go.ChangeShapes Go.WideShapes

theorem Sl_of_addr {w : World} {a : Addr} {n cap : Nat} {f : Nat → Value} (hm : n ≤ maxLen) (h : ∀ i, i < n → w.cell? (a.add i) = some (f i)) : Sl w w.heap.size (.slice (some a) n cap) n f := by
  obtain ⟨b, off, spot⟩ := a
  by_cases h0 : n = 0
  · subst h0
    exact ⟨_, 0, 0, cap, rfl, hm, fun h => absurd h (Nat.lt_irrefl 0), fun i hi => absurd hi (Nat.not_lt_zero i)⟩
  · have hspot : spot = none := by
      have := World.cell?_spot (h 0 (by omega))
      simpa [Addr.add] using this
    subst hspot
    have hp : ∀ i, (⟨b, off, none⟩ : Addr).add i = ⟨b, off + i, none⟩ := by intro i; unfold Addr.add; split <;> simp_all
    refine ⟨_, b, off, cap, rfl, hm, fun _ => ⟨rfl, ?_⟩, fun i hi => ?_⟩
    · have := World.block_lt_of_cell? w _ (h 0 (by omega))
      rwa [hp] at this
    · have := h i hi
      rwa [hp] at this

theorem Sl_nil (w : World) (B : Nat) (a : Option Addr) (cap : Nat) (f : Nat → Value) : Sl w B (.slice a 0 cap) 0 f :=
  ⟨a, 0, 0, cap, rfl, Nat.zero_le _, fun h => absurd h (Nat.lt_irrefl 0), fun i hi => absurd hi (Nat.not_lt_zero i)⟩

section
variable {H : Type} {enc : TypeId × Value → H} {w : World}

theorem read_bools {fuel : Nat} {v : Value} {x : DataW H × List MemPlace} (h : DataW.trod enc Tryz.prog w 0 (fun _ => true) true fuel 22 [v] = some x) : ∃ bs, Bools w w.heap.size v bs := by
  rcases open_bools Tryz.underlying22 Tryz.underlying4 (by kernel_rfl) h with ⟨hcs, _⟩ | ⟨a, len, cap, Z, hcs, _, hl, hm, _, hcell⟩
  · simp at hcs; subst hcs
    exact ⟨[], Sl_nil _ _ _ _ _⟩
  · simp at hcs; subst hcs
    refine ⟨(List.range len).map Z, ?_⟩
    unfold Bools
    simp only [List.length_map, List.length_range]
    refine Sl_of_addr (by omega) fun i hi => ?_
    rw [hcell i (by simpa using (by omega : i < cap))]
    simp [List.getD, hi]

theorem read_rows {fuel : Nat} {v : Value} {x : DataW H × List MemPlace} (h : DataW.trod enc Tryz.prog w 0 (fun _ => true) true fuel 23 [v] = some x) : ∃ xss, IntRows w w.heap.size v xss := by
  rcases open_int_rows Tryz.underlying23 Tryz.underlying70 Tryz.underlying2 (by kernel_rfl) (by kernel_rfl) h with ⟨hcs, _⟩ | ⟨a, len, cap, A, L, C, Z, hcs, _, hl, hm, _, hcell⟩
  · simp at hcs; subst hcs
    exact ⟨[], fun _ => .slice none 0 0, Sl_nil _ _ _ _ _, fun i hi => absurd hi (Nat.not_lt_zero i)⟩
  · simp at hcs; subst hcs
    refine ⟨(List.range len).map fun r => (Z r).take (L r), fun r => .slice (A r) (L r) (C r), ?_, fun i hi => ?_⟩
    · simp only [List.length_map, List.length_range]
      exact Sl_of_addr (by omega) fun i hi => (hcell i (by omega)).1
    · simp only [List.length_map, List.length_range] at hi
      obtain ⟨_, h2, h3, h4, _, h6, h7⟩ := hcell i (by omega)
      have e : ((List.range len).map fun r => (Z r).take (L r)).getD i [] = (Z i).take (L i) := by simp [List.getD, hi]
      rw [e]
      unfold Ints
      have hlen : ((Z i).take (L i)).length = L i := by rw [List.length_take]; omega
      rw [hlen]
      show Sl w w.heap.size (.slice (A i) (L i) (C i)) (L i) _
      cases hA : A i with
      | none =>
        have := h6 hA
        have h0 : L i = 0 := by omega
        rw [h0]
        exact Sl_nil _ _ _ _ _
      | some a' =>
        refine Sl_of_addr (n := L i) (by omega) fun j hj => ?_
        rw [(h7 a' hA).2 j (by omega)]
        simp [List.getD, hj]

theorem read_rel {r : Reach} {b0 : Nat} {v : Value} {d : DataW H} {p : List MemPlace} (hv : Value.okWide Tryz.prog w r b0 25 v) (h : DataW.Trod enc Tryz.prog w 0 (fun _ => true) true 25 v d p) :
    ∃ R, RelAt w w.heap.size v R := by
  obtain ⟨v0, v1, v2, v3, y0, y1, y2, y3, n, rfl, _, _, h0, h1, h2, h3⟩ := open_agg4 Tryz.underlying25 (by kernel_rfl) (by kernel_rfl) hv h
  obtain ⟨t, e0, _, _⟩ := DataW.trod_int Tryz.underlying2 h0
  obtain ⟨s, e1, _, _⟩ := DataW.trod_int Tryz.underlying2 h1
  simp at e0 e1
  subst e0 e1
  obtain ⟨bs, hb⟩ := read_bools h2
  obtain ⟨xss, hx⟩ := read_rows h3
  exact ⟨⟨t, s, bs, xss⟩, v2, v3, rfl, hb, hx⟩
end
end Go.Proofs.YtcpcbmappcndcaaGreatDoor.Readings
