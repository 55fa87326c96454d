
/- What the model's ProductOf hands back.
   Conditions: the relations are read as XRel's text says. -/
import Derived.Test.YtaimealknkhfbaaDoorProdFn
import Derived.Test.YtaimealknkhfbaaDoorAddedL
import Derived.Test.YtaimealknkhfbaaDoorJoinedL
import Derived.Test.YtaimealknkhfbaaDoorPairSwap
import Derived.Test.YtaimealknkhfbaaDoorRB28
import Derived.Deep.RegionHeld3
import Derived.Deep.DrawnRows
namespace Go.Proofs.YtaimealknkhfbaaDoor.ProdS
set_option linter.unusedVariables false
set_option linter.unusedSimpArgs false
set_option linter.ambiguousOpen false
set_option maxRecDepth 100000
open Go.RowKit Mem Copy Rel Valid Heap Bld Columns TidyMath TidyAuto TidyRight SpecFiner SpecRight ToL SpecTidyRel SpecTidied ImplRight ImplTidied PairMath PairsI JoinI TapeMath StepI ToldI TakesRun ProdMath ProdI ProdFn

theorem tid_parts {l m : L} (h : tidL l = tidL m) : tidyAcc l = tidyAcc m ∧ tidyNext l = tidyNext m := by
  have h1 := congrArg (fun r => r.accept) ((tidL_rel l).symm.trans ((congrArg relOf h).trans (tidL_rel m)))
  have h2 := congrArg (fun r => r.next) ((tidL_rel l).symm.trans ((congrArg relOf h).trans (tidL_rel m)))
  exact ⟨h1, h2⟩
theorem join_tid (t : Bool → Bool → Bool) {l m : L} (hl : l.Ok) (hm : m.Ok) : joinK t (tidL l) (tidL m) = joinK t l m ∧ joinB t (tidL l) (tidL m) = joinB t l m ∧ joinA t (tidL l) (tidL m) = joinA t l m ∧ joinN t (tidL l) (tidL m) = joinN t l m := by
  have e1 : joinL t (tidL l) (tidL m) = joinL t l m := by unfold joinL; rw [tidL_idem hl, tidL_idem hm]
  have e2 : joinB t (tidL l) (tidL m) = joinB t l m := by unfold joinB; rw [e1, (tidy_idem hl).1, (tidy_idem hm).1]
  have ek : (tidL l).k = l.k := rfl
  refine ⟨?_, e2, ?_, ?_⟩
  · unfold joinK; rw [e2, ek]
  · unfold joinA; rw [e2, e1]
  · unfold joinN; rw [e2, e1]
theorem most_tid {l : L} (hl : l.Ok) (hn : l.acc.length ≤ 150) : (tidyAcc l).length ≤ 1201 := by
  have h1 : (tidyAcc l).length = (tid (auM l) 0).length := by unfold tidyAcc TidyAuto.tidAcc; rw [List.length_map]
  have h2 : (tid (auM l) 0).length ≤ TidyAuto.most (auM l) := TidyAuto.met_few (fits hl) _
  have h3 := TidyAuto.cn_le (auM l) (TidyAuto.stop (auM l) + 1)
  have h4 : (auM l).n = (F l).length + 1 := rfl
  have h5 := F_few hl
  unfold TidyAuto.most at h2
  omega
theorem builtType {w : World} {B : Nat} {va vn : Value} {acc : List Bool} {nx : List (List Int)} (h : Built w B va vn acc nx) {a : Addr} {c : Array Value} {r : Nat × Nat} (hb : w.heap[a.block]? = some (.cells c 27 r)) (u : Value) : Built (w.setCell a u) B va vn acc nx := by
  obtain ⟨items, h1, h2, h3⟩ := h.rows
  exact ⟨h.acc.setOther (block_apart h.acc hb (by decide)) u, items, h1.setOther hb (by decide) u, h2.setOther (block_apart h2 hb (by decide)) u, h3⟩
theorem builtSet4 {w : World} {B Y : Nat} {va vn p q r s a b c d : Value} {acc : List Bool} {nx : List (List Int)} (h : Built w B va vn acc nx) (hb : w.heap[Y]? = some (.cells #[a, b, c, d] 27 (0, 0))) : Built (StepI.set4 w Y p q r s) B va vn acc nx :=
  builtType (builtType (builtType (builtType h (a := ⟨Y, 0, none⟩) hb p) (a := ⟨Y, 1, none⟩) (cells_set hb 0 p) q) (a := ⟨Y, 2, none⟩) (cells_set (cells_set hb 0 p) 1 q) r) (a := ⟨Y, 3, none⟩) (cells_set (cells_set (cells_set hb 0 p) 1 q) 2 r) s

/-- A relation of one's own in a box. -/
structure Bx (w : World) (x y : Array Value) (X : Nat) (k : Int) (va vn : Value) (A : List Bool) (N : List (List Int)) (W : World) : Prop where
  k3 : K3 w x y W
  at_ : W.heap[X]? = some (.cells #[.int .i64 k, .int .i64 0, va, vn] 27 (0, 0))
  bu : Built W (w.heap.size + 3) va vn A N
  hX : w.heap.size + 3 ≤ X
section
variable {w W W' : World} {x y : Array Value} {X Y : Nat} {k k' : Int} {va vn va' vn' : Value} {A A' : List Bool} {N N' : List (List Int)}
theorem Bx.lt (h : Bx w x y X k va vn A N W) : X < W.heap.size := lt_of_block h.at_
theorem Bx.step (h : Bx w x y X k va vn A N W) (hb : Below W.heap.size W W') : Bx w x y X k va vn A N W' :=
  ⟨Below.trans h.k3 (hb.mono (K3.size h.k3)), by rw [hb.block X h.lt]; exact h.at_, h.bu.below hb, h.hX⟩
theorem Bx.ptr (h : Bx w x y X k va vn A N W) : RelPtr W W.heap.size X ⟨k, 0, A, N⟩ := by
  obtain ⟨va', vn', ev, hva, hvn⟩ := h.bu.reads W.heap.size (Nat.le_refl _) k 0
  simp at ev
  obtain ⟨rfl, rfl⟩ := ev
  have c0 := cells_get h.at_ 0
  have c1 := cells_get h.at_ 1
  have c2 := cells_get h.at_ 2
  have c3 := cells_get h.at_ 3
  simp at c0 c1 c2 c3
  exact ⟨va, vn, c0, c1, c2, c3, hva, hvn⟩
theorem Bx.new (h : K3 w x y W) (hs : w.heap.size + 3 ≤ W.heap.size) (hb : Below W.heap.size W W') (hbu : Built W' W.heap.size va vn A N) : Bx w x y W'.heap.size k va vn A N (W'.alloc (.cells #[.int .i64 k, .int .i64 0, va, vn] 27)) :=
  ⟨Below.alloc (Below.trans h (hb.mono hs)) (Nat.le_trans hs hb.size) _, heap_alloc_new _ _, (hbu.mono hs).below ((Below.refl _ _).alloc (Nat.le_refl _) _), Nat.le_trans hs hb.size⟩
theorem Bx.put (h : Bx w x y X k va vn A N W) (hb : Below W.heap.size W W') (hbu : Built W' W.heap.size va' vn' A' N') : Bx w x y X k' va' vn' A' N' (StepI.set4 W' X (.int .i64 k') (.int .i64 0) va' vn') :=
  ⟨set4_k3 (h.step hb).k3 h.hX, set4_block (h.step hb).at_, (set4_built hbu h.lt).mono (K3.size h.k3), h.hX⟩
theorem Bx.other (h : Bx w x y X k va vn A N W) {a b c d p q r s : Value} (hY : W.heap[Y]? = some (.cells #[a, b, c, d] 27 (0, 0))) (hY3 : w.heap.size + 3 ≤ Y) (hne : X ≠ Y) : Bx w x y X k va vn A N (StepI.set4 W Y p q r s) :=
  ⟨set4_k3 h.k3 hY3, by rw [set4_other hne]; exact h.at_, builtSet4 h.bu hY, h.hX⟩
end

set_option maxHeartbeats 16000000 in
theorem specProd (v u : Value) (r s : R) (w : World) (B : Nat) (h : RelAt w B v r) (h' : RelAt w B u s) (hB : B ≤ w.heap.size) :
    Calls Tryd.prog 5 #[v, u] w fun e w' => ∃ va vn, e = .returned (.tuple #[.agg #[.int .i64 (prodK r s), .int .i64 0, va, vn], .int .i64 (prodV r s)]) ∧ Built w' w.heap.size va vn (prodA r s) (prodN r s) ∧ Below w.heap.size w w' := by
  have HV1 := Lib.hid (fun W (h1 : RelPtr W W.heap.size w.heap.size r) => specOk r w.heap.size W W.heap.size h1)
  have HV2 := Lib.hid (fun W m (h1 : RelPtr W W.heap.size (w.heap.size + 1) s) => specOk s (w.heap.size + 1) (W.drewN m) W.heap.size (h1.drewN m))
  have HP1 := Lib.hid (fun (W : World) (va vn : Value) (h : RelAt w B (.agg #[.int .i64 r.tapes, .int .i64 r.start, va, vn]) r) (hb : Below w.heap.size w W) (hx : W.heap[w.heap.size]? = some (.cells #[.int .i64 r.tapes, .int .i64 r.start, va, vn] 27 (0, 0))) => ToldI.box_ptr h hB hb hx)
  have HP2 := Lib.hid (fun (W : World) (va vn : Value) (h : RelAt w B (.agg #[.int .i64 s.tapes, .int .i64 s.start, va, vn]) s) (hb : Below w.heap.size w W) (hx : W.heap[w.heap.size + 1]? = some (.cells #[.int .i64 s.tapes, .int .i64 s.start, va, vn] 27 (0, 0))) => ToldI.box_ptr h hB hb hx)
  have HR := Lib.hid h
  have HR' := Lib.hid h'
  have HTY := Lib.hid (fun (x : R) (h1 : okB x = true) W X (hp : RelPtr W W.heap.size X x) (hX : X < W.heap.size) => show Calls Tryd.prog 14 #[.pointer (some ⟨X, 0, none⟩)] W fun e w' => ∃ aa na ca ab nb cb, e = .returned (.agg #[.int .i64 ((toL x).k : Nat), .int .i64 0, .slice aa na ca, .slice ab nb cb]) ∧ Built w' W.heap.size (.slice aa na ca) (.slice ab nb cb) (tidyAcc (toL x)) (tidyNext (toL x)) ∧ Below W.heap.size W w' from by
    have e1 := okL h1
    refine (tidied (toL x) e1.1.2 X W W.heap.size (by rw [e1.1.1]; exact hp) (Nat.le_refl _) hX (by omega)).mono ?_
    rintro e w' ⟨va, vn, he, hbu, hb⟩
    obtain ⟨a5, n5, c5, rfl, -⟩ := hbu.acc.shape'
    obtain ⟨items0, -, hnx0, -⟩ := hbu.rows
    obtain ⟨b5, m5, d5, rfl, -⟩ := hnx0.shape'
    exact ⟨_, _, _, _, _, _, he, hbu, hb⟩)
  have HAD := Lib.hid (fun (x : R) (h1 : okB x = true) (z : Bool) i (hi : (toL x).k + i + 1 ≤ 3) W X (hp : RelPtr W W.heap.size X ⟨(((toL x).k + i : Nat) : Int), 0, tidyAcc (grow z (toL x) i), tidyNext (grow z (toL x) i)⟩) (hX : X < W.heap.size) => show Calls Tryd.prog 15 #[.pointer (some ⟨X, 0, none⟩), .int .i64 ((growA z (grow z (toL x) i) : Nat) : Int)] W fun e w' => ∃ aa na ca ab nb cb, e = .returned (.agg #[.int .i64 (((toL x).k + (i + 1) : Nat) : Int), .int .i64 0, .slice aa na ca, .slice ab nb cb]) ∧ Built w' W.heap.size (.slice aa na ca) (.slice ab nb cb) (tidyAcc (grow z (toL x) (i + 1))) (tidyNext (grow z (toL x) (i + 1))) ∧ Below W.heap.size W w' from by
    have e1 := okL h1
    have eg := grow_ok e1.1.2 z i (by omega)
    have ek := grow_k z (toL x) i
    have ea := grow_acc z (toL x) i
    obtain ⟨l, hl⟩ : ∃ l, l = grow z (toL x) i := ⟨_, rfl⟩
    have et := grow_tid e1.1.2 z i hi
    rw [← hl] at eg ek ea et hp ⊢
    have ht := tidL_ok eg
    have hk : (tidL l).k = l.k := rfl
    have hm := most_tid eg (by rw [ea]; omega)
    have hal : (tidL l).acc = tidyAcc l := rfl
    have hpp := tid_parts et
    have := AddedL.addedL (relOf (tidL l)) ⟨⟨by rw [PairSwap.toL_relOf], by rw [PairSwap.toL_relOf]; exact ht⟩, by rw [PairSwap.toL_relOf, hal]; omega⟩ (growA z l) (by rw [PairSwap.toL_relOf, hk]; omega) (by rw [PairSwap.toL_relOf, hk]; exact growA_le z l) X W W.heap.size (by rw [tidL_rel]; rw [ek]; exact hp) (Nat.le_refl _) hX
    rw [PairSwap.toL_relOf] at this
    have e3 : (tidL l).k + 1 = (toL x).k + (i + 1) := by rw [hk]; omega
    refine this.mono ?_
    rintro e w' ⟨va, vn, he, hbu, hb⟩
    rw [e3] at he
    have hbu' : Built w' W.heap.size va vn (tidyAcc (grow z (toL x) (i + 1))) (tidyNext (grow z (toL x) (i + 1))) := by rw [← hpp.1, ← hpp.2]; exact hbu
    obtain ⟨a5, n5, c5, rfl, -⟩ := hbu'.acc.shape'
    obtain ⟨items0, -, hnx0, -⟩ := hbu'.rows
    obtain ⟨b5, m5, d5, rfl, -⟩ := hnx0.shape'
    exact ⟨_, _, _, _, _, _, he, hbu', hb⟩)
  have HPR := Lib.hid (fun (h0 : prodC r s = 0) W X Y (h1 : RelPtr W W.heap.size X ⟨(((toL r).k + (toL s).k : Nat) : Int), 0, tidyAcc (grow true (toL r) (toL s).k), tidyNext (grow true (toL r) (toL s).k)⟩) (h2 : RelPtr W W.heap.size Y ⟨(((toL s).k + (toL r).k : Nat) : Int), 0, tidyAcc (grow false (toL s) (toL r).k), tidyNext (grow false (toL s) (toL r).k)⟩) (hX : X < W.heap.size) (hY : Y < W.heap.size) => show Calls Tryd.prog 16 #[.pointer (some ⟨X, 0, none⟩), .pointer (some ⟨Y, 0, none⟩), .int .i64 1] W fun e w' => ∃ va vn, e = .returned (.tuple #[.agg #[.int .i64 (prodK r s), .int .i64 0, va, vn], .int .i64 (if prodQ r s = true then 0 else 3)]) ∧ Built w' W.heap.size va vn (prodA r s) (prodN r s) ∧ Below W.heap.size W w' from by
    obtain ⟨o1, o2, o3⟩ := prod_of h0
    have e1 := okL o1
    have e2 := okL o2
    have k1 := grow_k true (toL r) (toL s).k
    have k2 := grow_k false (toL s) (toL r).k
    have g1 := grow_ok e1.1.2 true (toL s).k o3
    have g2 := grow_ok e2.1.2 false (toL r).k (by omega)
    have m1 := most_tid g1 (by rw [grow_acc]; omega)
    have m2 := most_tid g2 (by rw [grow_acc]; omega)
    have := JoinedL.joinedL and2 1 (fun l m hl hm hk bp bq w B h h' hB hbp hbq hnm => PairS.pairsBoth l m hl hm hk bp bq w B h h' hB hbp hbq hnm) (tidL (grow true (toL r) (toL s).k)) (tidL (grow false (toL s) (toL r).k)) (tidL_ok g1) (tidL_ok g2) (by show (grow true (toL r) (toL s).k).k = (grow false (toL s) (toL r).k).k; omega)
      (by show (tidyAcc _).length ≤ _; omega) (by show (tidyAcc _).length ≤ _; omega) (by rw [(tidy_idem g1).1]; exact m1) (by rw [(tidy_idem g2).1]; exact m2) X Y W W.heap.size (by rw [tidL_rel, k1]; exact h1) (by rw [tidL_rel, k2]; exact h2) (Nat.le_refl _) hX hY
    obtain ⟨j1, j2, j3, j4⟩ := join_tid and2 g1 g2
    rw [j1, j2, j3, j4] at this
    rw [(prod_yes h0).1, (prod_yes h0).2.1, (prod_yes h0).2.2.1]
    exact this)
  have HKE1 := Lib.hid (show okB r = true → r.tapes = ((toL r).k : Int) from fun h => (okT h).1.symm)
  have HKE2 := Lib.hid (show okB s = true → s.tapes = ((toL s).k : Int) from fun h => (okT h).1.symm)
  have HAD1 := Lib.hid (fun h1 => HAD.out r h1 true)
  have HAD2 := Lib.hid (fun h1 => HAD.out s h1 false)
  have HTY1 := Lib.hid (HTY.out r)
  have HTY2 := Lib.hid (HTY.out s)
  clear HAD HTY
  have HE1 := Lib.hid (show okB r = false → prodC r s = 1 from fun h => by simp [prodC, h])
  have HE2 := Lib.hid (show okB s = false → prodC r s = 1 from fun h => by unfold prodC; split <;> simp [h])
  have HE3 := Lib.hid (show okB r = true → okB s = true → prodC r s = if r.tapes + s.tapes ≤ 3 then 0 else 2 from fun h h2 => prod_code h h2)
  have HT1 := Lib.hid (show okB r = true → 1 ≤ r.tapes ∧ r.tapes ≤ 3 from fun h => (okT h).2)
  have HT2 := Lib.hid (show okB s = true → 1 ≤ s.tapes ∧ s.tapes ≤ 3 from fun h => (okT h).2)
  have HN0 := Lib.hid (fun h0 : prodC r s ≠ 0 => prod_no h0)
  have HCC := Lib.hid (fun h0 : prodC r s = 0 => (prod_yes h0).2.2.2)
  have HQ0 := Lib.hid (fun (h0 : prodC r s = 0) (hq : prodQ r s = false) => show prodK r s = 0 ∧ prodA r s = [] ∧ prodN r s = [] from by
    rw [(prod_yes h0).1, (prod_yes h0).2.1, (prod_yes h0).2.2.1]
    exact join_no hq)
  obtain ⟨Q, hQ⟩ : ∃ x, x = prodQ r s := ⟨_, rfl⟩
  obtain ⟨K, hK⟩ : ∃ x, x = prodK r s := ⟨_, rfl⟩
  obtain ⟨A, hA⟩ : ∃ x, x = prodA r s := ⟨_, rfl⟩
  obtain ⟨N, hN⟩ : ∃ x, x = prodN r s := ⟨_, rfl⟩
  obtain ⟨C, hC⟩ : ∃ x, x = prodV r s := ⟨_, rfl⟩
  obtain ⟨D, hD⟩ : ∃ x, x = prodC r s := ⟨_, rfl⟩
  obtain ⟨q1, hq1⟩ : ∃ x, x = okB r := ⟨_, rfl⟩
  obtain ⟨q2, hq2⟩ : ∃ x, x = okB s := ⟨_, rfl⟩
  rw [← hD] at HE1 HE2 HE3 HN0 HCC HQ0 HPR
  rw [← hQ] at HCC HQ0 HPR
  rw [← hK, ← hA, ← hN] at HN0 HQ0 HPR
  rw [← hC] at HN0 HCC 
  rw [← hq1] at HE1 HE3 HT1 HV1 HAD1 HTY1 HKE1
  rw [← hq2] at HE2 HE3 HT2 HV2 HAD2 HTY2 HKE2
  rw [← hK, ← hA, ← hN, ← hC]
  clear hQ hK hA hN hC hD hq1 hq2

  obtain ⟨va, vn, rfl, ha, hn⟩ := h
  obtain ⟨aa1, ba, oa, ca1, rfl, -, -, -⟩ := ha
  obtain ⟨-, ⟨ab1, bb, ob, cb1, rfl, -, -, -⟩, -⟩ := hn
  obtain ⟨va, vn, rfl, ha, hn⟩ := h'
  obtain ⟨aa2, ba, oa, ca2, rfl, -, -, -⟩ := ha
  obtain ⟨-, ⟨ab2, bb, ob, cb2, rfl, -, -, -⟩, -⟩ := hn
  obtain ⟨k1, hk⟩ : ∃ x, x = r.tapes := ⟨_, rfl⟩
  obtain ⟨st1, hst⟩ : ∃ x, x = r.start := ⟨_, rfl⟩
  obtain ⟨na1, hna⟩ : ∃ x, x = r.accept.length := ⟨_, rfl⟩
  obtain ⟨nb1, hnb⟩ : ∃ x, x = r.next.length := ⟨_, rfl⟩
  rw [← hk, ← hst, ← hna, ← hnb] at HR
  rw [← hk, ← hst] at HP1
  rw [← hk] at HKE1
  rw [← hk] at HE3 HT1
  rw [← hk, ← hst, ← hna, ← hnb]
  clear hk hst hna hnb
  obtain ⟨k2, hk⟩ : ∃ x, x = s.tapes := ⟨_, rfl⟩
  obtain ⟨st2, hst⟩ : ∃ x, x = s.start := ⟨_, rfl⟩
  obtain ⟨na2, hna⟩ : ∃ x, x = s.accept.length := ⟨_, rfl⟩
  obtain ⟨nb2, hnb⟩ : ∃ x, x = s.next.length := ⟨_, rfl⟩
  rw [← hk, ← hst, ← hna, ← hnb] at HR'
  rw [← hk, ← hst] at HP2
  rw [← hk] at HKE2
  rw [← hk] at HE3 HT2
  rw [← hk, ← hst, ← hna, ← hnb]
  clear hk hst hna hnb
  have HK0 := Lib.hid (show K3 w #[.int .i64 k1, .int .i64 st1, .slice aa1 na1 ca1, .slice ab1 nb1 cb1] #[.int .i64 k2, .int .i64 st2, .slice aa2 na2 ca2, .slice ab2 nb2 cb2] (((w.alloc (.cells #[.int .i64 k1, .int .i64 st1, .slice aa1 na1 ca1, .slice ab1 nb1 cb1] 27)).alloc (.cells #[.int .i64 k2, .int .i64 st2, .slice aa2 na2 ca2, .slice ab2 nb2 cb2] 27)).alloc (.cells #[Value.int .i64 0, .int .i64 0, .slice none 0 0, .slice none 0 0] 27)) from Below.refl _ _)
  have HST := Lib.hid (fun W W' (h : K3 w #[.int .i64 k1, .int .i64 st1, .slice aa1 na1 ca1, .slice ab1 nb1 cb1] #[.int .i64 k2, .int .i64 st2, .slice aa2 na2 ca2, .slice ab2 nb2 cb2] W) (hb : Below W.heap.size W W') => (show K3 w #[.int .i64 k1, .int .i64 st1, .slice aa1 na1 ca1, .slice ab1 nb1 cb1] #[.int .i64 k2, .int .i64 st2, .slice aa2 na2 ca2, .slice ab2 nb2 cb2] W' from Below.trans h (hb.mono (K3.size h))))
  have HQ1 := Lib.hid (fun W (h : K3 w #[.int .i64 k1, .int .i64 st1, .slice aa1 na1 ca1, .slice ab1 nb1 cb1] #[.int .i64 k2, .int .i64 st2, .slice aa2 na2 ca2, .slice ab2 nb2 cb2] W) => HP1.out W _ _ HR.out (K3.base h) (K3.box1 h))
  have HQ2 := Lib.hid (fun W (h : K3 w #[.int .i64 k1, .int .i64 st1, .slice aa1 na1 ca1, .slice ab1 nb1 cb1] #[.int .i64 k2, .int .i64 st2, .slice aa2 na2 ca2, .slice ab2 nb2 cb2] W) => HP2.out W _ _ HR'.out (K3.base h) (K3.box2 h))
  obtain ⟨W1, hW1⟩ : ∃ W, W = (((w.alloc (.cells #[.int .i64 k1, .int .i64 st1, .slice aa1 na1 ca1, .slice ab1 nb1 cb1] 27)).alloc (.cells #[.int .i64 k2, .int .i64 st2, .slice aa2 na2 ca2, .slice ab2 nb2 cb2] 27)).alloc (.cells #[Value.int .i64 0, .int .i64 0, .slice none 0 0, .slice none 0 0] 27)) := ⟨_, rfl⟩
  rw [← hW1] at HK0
  have HC1 := Lib.hid (HV1.out W1 (HQ1.out W1 HK0.out))
  have HC2 := Lib.hid (fun m => HV2.out W1 m (HQ2.out W1 HK0.out))
  have HW1 := Lib.hid hW1
  clear HV1 HV2 HP1 HP2 HR HR' hB hW1
  go_enter Tryd.func5, Tryd.ntmps5
  go_upto_region 1 with fail
  rw [← HW1.out]
  go_wp2_with fail
  refine HC1.out.mono ?_
  rintro e w3 ⟨rfl, m3, hw3⟩
  have HK3 : Hid (K3 w #[.int .i64 k1, .int .i64 st1, .slice aa1 na1 ca1, .slice ab1 nb1 cb1] #[.int .i64 k2, .int .i64 st2, .slice aa2 na2 ca2, .slice ab2 nb2 cb2] w3) := by rw [hw3]; exact Lib.hid (below_drewN HK0.out m3)
  have HC3 := Lib.hid (HC2.out m3)
  rw [← hw3] at HC3
  clear hw3 HC1 HC2 HK0 HW1
  have x0 := cells_get (K3.box1 HK3.out) 0
  have x1 := cells_get (K3.box1 HK3.out) 1
  have x2 := cells_get (K3.box1 HK3.out) 2
  have x3 := cells_get (K3.box1 HK3.out) 3
  have y0 := cells_get (K3.box2 HK3.out) 0
  have y1 := cells_get (K3.box2 HK3.out) 1
  have y2 := cells_get (K3.box2 HK3.out) 2
  have y3 := cells_get (K3.box2 HK3.out) 3
  have r0 := cells_get (K3.res HK3.out) 0
  have r1 := cells_get (K3.res HK3.out) 1
  have r2 := cells_get (K3.res HK3.out) 2
  have r3 := cells_get (K3.res HK3.out) 3
  simp at x0 x1 x2 x3 y0 y1 y2 y3 r0 r1 r2 r3
  have lx := lt_of_block (K3.box1 HK3.out)
  have ly := lt_of_block (K3.box2 HK3.out)
  have lr := lt_of_block (K3.res HK3.out)
  have f0 := cells_free (K3.res HK3.out) 0
  have f1 := cells_free (K3.res HK3.out) 1
  have f2 := cells_free (K3.res HK3.out) 2
  have f3 := cells_free (K3.res HK3.out) 3
  cases q1 with
  | false =>
    obtain rfl := HE1.out rfl
    obtain ⟨rfl, rfl, rfl, rfl⟩ := HN0.out (by decide)
    clear HE1 HE2 HE3 HN0 HCC HQ0 HPR HT1 HT2 HC3 HAD1 HAD2 HTY1 HTY2 HKE1 HKE2
    go_wp2_with fail
    obtain ⟨g0, g1, g2, g3⟩ := res4 (a := .int .i64 0) (b := .int .i64 0) (c := .slice none 0 0) (d := .slice none 0 0) (K3.res HK3.out)
    refine bodyPost_ret (v := .tuple #[.agg #[.int .i64 0, .int .i64 0, .slice none 0 0, .slice none 0 0], .int .i64 1]) (by simp [results, Tryd.results5, go_sem, g0, g1, g2, g3]) rfl ⟨.slice none 0 0, .slice none 0 0, rfl, ImplTidied.built_none _ _, ?_⟩
    exact set4_below (K3.base HK3.out) (by omega)
  | true =>
    clear HE1
    go_wp2_with fail
    refine HC3.out.mono ?_
    rintro e w4 ⟨rfl, m4, hw4⟩
    have HK4 : Hid (K3 w #[.int .i64 k1, .int .i64 st1, .slice aa1 na1 ca1, .slice ab1 nb1 cb1] #[.int .i64 k2, .int .i64 st2, .slice aa2 na2 ca2, .slice ab2 nb2 cb2] w4) := by rw [hw4]; exact Lib.hid (below_drewN HK3.out m4)
    clear hw4 HC3 HK3 x0 x1 x2 x3 y0 y1 y2 y3 r0 r1 r2 r3 f0 f1 f2 f3 lx ly lr
    have x0 := cells_get (K3.box1 HK4.out) 0
    have x1 := cells_get (K3.box1 HK4.out) 1
    have x2 := cells_get (K3.box1 HK4.out) 2
    have x3 := cells_get (K3.box1 HK4.out) 3
    have y0 := cells_get (K3.box2 HK4.out) 0
    have y1 := cells_get (K3.box2 HK4.out) 1
    have y2 := cells_get (K3.box2 HK4.out) 2
    have y3 := cells_get (K3.box2 HK4.out) 3
    have r0 := cells_get (K3.res HK4.out) 0
    have r1 := cells_get (K3.res HK4.out) 1
    have r2 := cells_get (K3.res HK4.out) 2
    have r3 := cells_get (K3.res HK4.out) 3
    simp at x0 x1 x2 x3 y0 y1 y2 y3 r0 r1 r2 r3
    have lx := lt_of_block (K3.box1 HK4.out)
    have ly := lt_of_block (K3.box2 HK4.out)
    have lr := lt_of_block (K3.res HK4.out)
    have f0 := cells_free (K3.res HK4.out) 0
    have f1 := cells_free (K3.res HK4.out) 1
    have f2 := cells_free (K3.res HK4.out) 2
    have f3 := cells_free (K3.res HK4.out) 3
    cases q2 with
    | false =>
      obtain rfl := HE2.out rfl
      obtain ⟨rfl, rfl, rfl, rfl⟩ := HN0.out (by decide)
      clear HE2 HE3 HN0 HCC HQ0 HPR HT1 HT2 HAD1 HAD2 HTY1 HTY2 HKE1 HKE2
      go_wp2_with fail
      obtain ⟨g0, g1, g2, g3⟩ := res4 (a := .int .i64 0) (b := .int .i64 0) (c := .slice none 0 0) (d := .slice none 0 0) (K3.res HK4.out)
      refine bodyPost_ret (v := .tuple #[.agg #[.int .i64 0, .int .i64 0, .slice none 0 0, .slice none 0 0], .int .i64 1]) (by simp [results, Tryd.results5, go_sem, g0, g1, g2, g3]) rfl ⟨.slice none 0 0, .slice none 0 0, rfl, ImplTidied.built_none _ _, ?_⟩
      exact set4_below (K3.base HK4.out) (by omega)
    | true =>
      obtain ⟨t1, t2⟩ := HT1.out (by trivial)
      obtain ⟨t3, t4⟩ := HT2.out (by trivial)
      have HD := Lib.hid (HE3.out (by trivial) (by trivial))
      have HA1 := Lib.hid (HAD1.out (by trivial))
      have HA2 := Lib.hid (HAD2.out (by trivial))
      have HY1 := Lib.hid (HTY1.out (by trivial))
      have HY2 := Lib.hid (HTY2.out (by trivial))
      have hke1 := HKE1.out (by trivial)
      have hke2 := HKE2.out (by trivial)
      have hwr : IntKind.i64.wrap (k1 + k2) = k1 + k2 := by rw [IntKind.wrap_i64]; omega
      clear HE2 HE3 HT1 HT2 HAD1 HAD2 HTY1 HTY2 HKE1 HKE2
      by_cases hle : k1 + k2 ≤ 3
      · have h0 : D = 0 := by rw [HD.out, if_pos hle]
        have HJ := Lib.hid (HPR.out h0)
        have HCD := Lib.hid (HCC.out h0)
        rw [← HCD.out] at HJ
        have hgt : decide (k1 + k2 > 3) = false := decide_eq_false (by omega)
        have hgt' : decide (3 < k1 + k2) = false := decide_eq_false (by omega)
        have HT := Lib.hid (HY1.out w4 w.heap.size (HQ1.out _ HK4.out) (by have := K3.size HK4.out; omega))
        clear HPR HCC HQ0 HN0 HD h0 HCD HY1
        go_wp2_with fail
        refine HT.out.mono ?_
        rintro e w5 ⟨aa, na, ca, ab, nb, cb, rfl, hbu, hb5⟩
        obtain ⟨X, hX⟩ : ∃ X, X = w5.heap.size := ⟨_, rfl⟩
        have HBX := Lib.hid (show Bx w #[.int .i64 k1, .int .i64 st1, .slice aa1 na1 ca1, .slice ab1 nb1 cb1] #[.int .i64 k2, .int .i64 st2, .slice aa2 na2 ca2, .slice ab2 nb2 cb2] X ((((toL r).k + 0 : Nat)) : Int) (.slice aa na ca) (.slice ab nb cb) (tidyAcc (grow true (toL r) 0)) (tidyNext (grow true (toL r) 0)) _ from by rw [hX]; exact Bx.new HK4.out (K3.size HK4.out) hb5 hbu)
        have HX := Lib.hid hX
        clear hX hbu hb5 HT HK4 x0 x1 x2 x3 y0 y1 y2 y3 r0 r1 r2 r3 f0 f1 f2 f3 lx ly lr hgt hgt' hwr
        obtain ⟨kr, hkr⟩ : ∃ x, x = (toL r).k := ⟨_, rfl⟩
        obtain ⟨ks, hks⟩ : ∃ x, x = (toL s).k := ⟨_, rfl⟩
        rw [← hkr] at hke1 HJ HA1 HBX ⊢
        rw [← hks] at hke2 HJ HA2 HY2
        obtain ⟨gL, hgL⟩ : ∃ g, g = grow true (toL r) := ⟨_, rfl⟩
        obtain ⟨gM, hgM⟩ : ∃ g, g = grow false (toL s) := ⟨_, rfl⟩
        have HG1 := Lib.hid (fun i => (show growA true (gL i) = kr + i from by rw [hgL, hkr]; exact grow_k true (toL r) i))
        have HG2 := Lib.hid (fun i => (show growA false (gM i) = 0 from rfl))
        have HM0 := Lib.hid (show tidyAcc (toL s) = tidyAcc (gM 0) ∧ tidyNext (toL s) = tidyNext (gM 0) from by rw [hgM]; exact ⟨rfl, rfl⟩)
        rw [← hgL] at HJ HA1 HBX
        rw [← hgM] at HJ HA2
        have HA3 := Lib.hid (fun i (hi : kr + i + 1 ≤ 3) W X (hp : RelPtr W W.heap.size X ⟨((kr + i : Nat) : Int), 0, tidyAcc (gL i), tidyNext (gL i)⟩) (hX : X < W.heap.size) => show Calls Tryd.prog 15 #[.pointer (some ⟨X, 0, none⟩), .int .i64 ((kr + i : Nat) : Int)] W fun e w' => ∃ aa na ca ab nb cb, e = .returned (.agg #[.int .i64 ((kr + (i + 1) : Nat) : Int), .int .i64 0, .slice aa na ca, .slice ab nb cb]) ∧ Built w' W.heap.size (.slice aa na ca) (.slice ab nb cb) (tidyAcc (gL (i + 1))) (tidyNext (gL (i + 1))) ∧ Below W.heap.size W w' from by have := HA1.out i hi W X hp hX; rw [HG1.out i] at this; exact this)
        have HA4 := Lib.hid (fun i (hi : ks + i + 1 ≤ 3) W X (hp : RelPtr W W.heap.size X ⟨((ks + i : Nat) : Int), 0, tidyAcc (gM i), tidyNext (gM i)⟩) (hX : X < W.heap.size) => show Calls Tryd.prog 15 #[.pointer (some ⟨X, 0, none⟩), .int .i64 0] W fun e w' => ∃ aa na ca ab nb cb, e = .returned (.agg #[.int .i64 ((ks + (i + 1) : Nat) : Int), .int .i64 0, .slice aa na ca, .slice ab nb cb]) ∧ Built w' W.heap.size (.slice aa na ca) (.slice ab nb cb) (tidyAcc (gM (i + 1))) (tidyNext (gM (i + 1))) ∧ Below W.heap.size W w' from HA2.out i hi W X hp hX)
        rw [HM0.out.1, HM0.out.2] at HY2
        subst hke1
        subst hke2
        clear hkr hks hgL hgM HA1 HA2 HG1 HG2 HM0
        have hle3 : kr + ks ≤ 3 := by omega
        have tks : 1 ≤ ks := by omega
        have tkr : 1 ≤ kr := by omega
        clear t1 t2 t3 t4 hle
        go_wp2_with fail
        rw [← HX.out]
        go_loopw [7] (fun s7 wr => ∃ (i : Nat) (aa : Option Addr) (na ca : Nat) (ab : Option Addr) (nb cb : Nat), i ≤ ks ∧ s7 = .int .i64 i ∧ Bx w #[.int .i64 (kr : Nat), .int .i64 st1, .slice aa1 na1 ca1, .slice ab1 nb1 cb1] #[.int .i64 (ks : Nat), .int .i64 st2, .slice aa2 na2 ca2, .slice ab2 nb2 cb2] X ((kr + i : Nat) : Int) (.slice aa na ca) (.slice ab nb cb) (tidyAcc (gL i)) (tidyNext (gL i)) wr) (fun s7 _ => ks - (intOf s7).toNat)
        case atStart => exact ⟨0, _, _, _, _, _, _, Nat.zero_le _, rfl, HBX.out⟩
        case round =>
          obtain ⟨i, ac, nc, cc, ad, nd, cd, hi, rfl, hbx⟩ := hrel
          have HB := Lib.hid hbx
          clear HBX HX
          have y0 := cells_get (K3.box2 hbx.k3) 0
          have ly := lt_of_block (K3.box2 hbx.k3)
          simp at y0
          by_cases hlt : i < ks
          · have HC := Lib.hid (HA3.out i (by omega) wr X hbx.ptr hbx.lt)
            obtain ⟨ki, hki⟩ : ∃ x, x = kr + i := ⟨_, rfl⟩
            have HKI := Lib.hid (show kr + (i + 1) = ki + 1 by omega)
            rw [← hki] at HC hbx HB
            rw [HKI.out] at HC
            have p0 := cells_get hbx.at_ 0
            have p1 := cells_get hbx.at_ 1
            have p2 := cells_get hbx.at_ 2
            have p3 := cells_get hbx.at_ 3
            have lp := hbx.lt
            simp at p0 p1 p2 p3
            clear hki hbx
            go_wp2_with fail
            refine HC.out.mono ?_
            rintro e w6 ⟨ae, ne, ce, af, nf, cf, rfl, hbu, hb6⟩
            have HB6 := Lib.hid (HB.out.step hb6)
            have HP6 := Lib.hid (HB.out.put (k' := ((ki + 1 : Nat) : Int)) hb6 hbu)
            clear hbu hb6 HC HB p0 p1 p2 p3 lp
            have p0 := cells_get HB6.out.at_ 0
            have p1 := cells_get HB6.out.at_ 1
            have p2 := cells_get HB6.out.at_ 2
            have p3 := cells_get HB6.out.at_ 3
            have f0 := cells_free HB6.out.at_ 0
            have f1 := cells_free HB6.out.at_ 1
            have f2 := cells_free HB6.out.at_ 2
            have f3 := cells_free HB6.out.at_ 3
            have lp := HB6.out.lt
            simp at p0 p1 p2 p3
            go_wp2_with fail
            go_roundw
            case rel => exact ⟨i + 1, ae, ne, ce, af, nf, cf, hlt, by go_num, by rw [HKI.out]; exact HP6.out⟩
            case measure => simp [intOf]; omega
          · obtain rfl : i = ks := by omega
            have HC := Lib.hid (HY2.out wr (w.heap.size + 1) (HQ2.out _ hbx.k3) (by have := K3.size hbx.k3; omega))
            clear hlt hi hbx HA3
            go_wp2_with fail
            refine HC.out.mono ?_
            rintro e w6 ⟨ae, ne, ce, af, nf, cf, rfl, hbu, hb6⟩
            obtain ⟨Y, hY⟩ : ∃ Y, Y = w6.heap.size := ⟨_, rfl⟩
            have HXY := Lib.hid (show X < Y by rw [hY]; exact Nat.lt_of_lt_of_le HB.out.lt hb6.size)
            have HBY := Lib.hid (show Bx w #[.int .i64 (kr : Nat), .int .i64 st1, .slice aa1 na1 ca1, .slice ab1 nb1 cb1] #[.int .i64 (i : Nat), .int .i64 st2, .slice aa2 na2 ca2, .slice ab2 nb2 cb2] Y ((i + 0 : Nat) : Int) (.slice ae ne ce) (.slice af nf cf) (tidyAcc (gM 0)) (tidyNext (gM 0)) _ from by rw [hY]; exact Bx.new HB.out.k3 (K3.size HB.out.k3) hb6 hbu)
            have HBX2 := Lib.hid ((HB.out.step hb6).step ((Below.refl _ w6).alloc (Nat.le_refl _) (.cells #[.int .i64 ((i + 0 : Nat) : Int), .int .i64 0, .slice ae ne ce, .slice af nf cf] 27)))
            have HYY := Lib.hid hY
            clear hbu hb6 HC HB y0 ly hY HY2
            go_wp2_with fail
            rw [← HYY.out]
            go_loopw [9] (fun s9 wr => ∃ (j : Nat) (ae : Option Addr) (ne ce : Nat) (af : Option Addr) (nf cf : Nat), j ≤ kr ∧ s9 = .int .i64 j ∧ Bx w #[.int .i64 (kr : Nat), .int .i64 st1, .slice aa1 na1 ca1, .slice ab1 nb1 cb1] #[.int .i64 (i : Nat), .int .i64 st2, .slice aa2 na2 ca2, .slice ab2 nb2 cb2] X ((kr + i : Nat) : Int) (.slice ac nc cc) (.slice ad nd cd) (tidyAcc (gL i)) (tidyNext (gL i)) wr ∧ Bx w #[.int .i64 (kr : Nat), .int .i64 st1, .slice aa1 na1 ca1, .slice ab1 nb1 cb1] #[.int .i64 (i : Nat), .int .i64 st2, .slice aa2 na2 ca2, .slice ab2 nb2 cb2] Y ((i + j : Nat) : Int) (.slice ae ne ce) (.slice af nf cf) (tidyAcc (gM j)) (tidyNext (gM j)) wr) (fun s9 _ => kr - (intOf s9).toNat)
            case atStart => exact ⟨0, _, _, _, _, _, _, Nat.zero_le _, rfl, HBX2.out, HBY.out⟩
            case round =>
              obtain ⟨j, ae, ne, ce, af, nf, cf, hj, rfl, hbx, hby⟩ := hrel
              have HB := Lib.hid hbx
              have HBB := Lib.hid hby
              clear HBX2 HBY HYY
              have x0 := cells_get (K3.box1 hbx.k3) 0
              have lx := lt_of_block (K3.box1 hbx.k3)
              simp at x0
              by_cases hlt : j < kr
              · have HC := Lib.hid (HA4.out j (by omega) wr Y hby.ptr hby.lt)
                obtain ⟨kj, hkj⟩ : ∃ x, x = i + j := ⟨_, rfl⟩
                have HKJ := Lib.hid (show i + (j + 1) = kj + 1 by omega)
                rw [← hkj] at hby HBB
                rw [HKJ.out] at HC
                have p0 := cells_get hby.at_ 0
                have p1 := cells_get hby.at_ 1
                have p2 := cells_get hby.at_ 2
                have p3 := cells_get hby.at_ 3
                have lp := hby.lt
                simp at p0 p1 p2 p3
                clear hkj hby hbx
                go_wp2_with fail
                refine HC.out.mono ?_
                rintro e w7 ⟨ag, ng, cg, ah, nh, ch, rfl, hbu, hb7⟩
                have HB7 := Lib.hid (HBB.out.step hb7)
                have HP7 := Lib.hid (HBB.out.put (k' := ((kj + 1 : Nat) : Int)) hb7 hbu)
                have HO7 := Lib.hid ((HB.out.step hb7).other (p := .int .i64 ((kj + 1 : Nat) : Int)) (q := .int .i64 0) (r := .slice ag ng cg) (s := .slice ah nh ch) HB7.out.at_ HB7.out.hX (Nat.ne_of_lt HXY.out))
                clear hbu hb7 HC HB HBB p0 p1 p2 p3 lp
                have p0 := cells_get HB7.out.at_ 0
                have p1 := cells_get HB7.out.at_ 1
                have p2 := cells_get HB7.out.at_ 2
                have p3 := cells_get HB7.out.at_ 3
                have f0 := cells_free HB7.out.at_ 0
                have f1 := cells_free HB7.out.at_ 1
                have f2 := cells_free HB7.out.at_ 2
                have f3 := cells_free HB7.out.at_ 3
                have lp := HB7.out.lt
                simp at p0 p1 p2 p3
                go_wp2_with fail
                go_roundw
                case rel => exact ⟨j + 1, ag, ng, cg, ah, nh, ch, hlt, by go_num, HO7.out, by rw [HKJ.out]; exact HP7.out⟩
                case measure => simp [intOf]; omega
              · obtain rfl : j = kr := by omega
                have HC := Lib.hid (HJ.out wr X Y hbx.ptr hby.ptr hbx.lt hby.lt)
                have HK7 := Lib.hid hbx.k3
                clear hlt hj hbx hby HA4 HJ HB HBB
                go_wp2_with fail
                refine HC.out.mono ?_
                rintro e w7 ⟨va, vn, rfl, hbu, hb7⟩
                have HK8 := Lib.hid (HST.out _ _ HK7.out hb7)
                have HBU := Lib.hid (hbu.mono (K3.size HK7.out))
                obtain ⟨a8, n8, c8, rfl, -⟩ := hbu.acc.shape'
                obtain ⟨items8, -, hnx8, -⟩ := hbu.rows
                obtain ⟨b8, m8, d8, rfl, -⟩ := hnx8.shape'
                clear hbu hb7 hnx8 HC HK7 x0 lx
                have r0 := cells_get (K3.res HK8.out) 0
                have r1 := cells_get (K3.res HK8.out) 1
                have r2 := cells_get (K3.res HK8.out) 2
                have r3 := cells_get (K3.res HK8.out) 3
                simp at r0 r1 r2 r3
                have lr := lt_of_block (K3.res HK8.out)
                have f0 := cells_free (K3.res HK8.out) 0
                have f1 := cells_free (K3.res HK8.out) 1
                have f2 := cells_free (K3.res HK8.out) 2
                have f3 := cells_free (K3.res HK8.out) 3
                go_wp2_with fail
                obtain ⟨g0, g1, g2, g3⟩ := res4 (a := .int .i64 K) (b := .int .i64 0) (c := .slice a8 n8 c8) (d := .slice b8 m8 d8) (K3.res HK8.out)
                refine bodyPost_ret (v := .tuple #[.agg #[.int .i64 K, .int .i64 0, .slice a8 n8 c8, .slice b8 m8 d8], .int .i64 C]) (by simp [results, Tryd.results5, go_sem, g0, g1, g2, g3]) rfl ⟨.slice a8 n8 c8, .slice b8 m8 d8, rfl, (set4_built HBU.out (by omega)).mono (by omega), ?_⟩
                exact set4_below (K3.base HK8.out) (by omega)
      · have h0 : D = 2 := by rw [HD.out, if_neg hle]
        subst h0
        obtain ⟨rfl, rfl, rfl, rfl⟩ := HN0.out (by decide)
        have hgt : decide (k1 + k2 > 3) = true := decide_eq_true (by omega)
        have hgt' : decide (3 < k1 + k2) = true := decide_eq_true (by omega)
        clear HPR HCC HQ0 HN0 HD HA1 HA2 HY1 HY2
        go_wp2_with fail
        obtain ⟨g0, g1, g2, g3⟩ := res4 (a := .int .i64 0) (b := .int .i64 0) (c := .slice none 0 0) (d := .slice none 0 0) (K3.res HK4.out)
        refine bodyPost_ret (v := .tuple #[.agg #[.int .i64 0, .int .i64 0, .slice none 0 0, .slice none 0 0], .int .i64 2]) (by simp [results, Tryd.results5, go_sem, g0, g1, g2, g3]) rfl ⟨.slice none 0 0, .slice none 0 0, rfl, ImplTidied.built_none _ _, ?_⟩
        exact set4_below (K3.base HK4.out) (by omega)
end Go.Proofs.YtaimealknkhfbaaDoor.ProdS
