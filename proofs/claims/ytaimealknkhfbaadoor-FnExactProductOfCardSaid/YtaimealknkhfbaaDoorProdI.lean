
/- What the program's product hands back.
   Conditions: the relations are read as XRel's text says, and have at most three tapes together. -/
import Derived.Test.YtaimealknkhfbaaDoorProdMath
import Derived.Test.YtaimealknkhfbaaDoorRB24
import Derived.Test.YtaimealknkhfbaaDoorRB29
import Derived.Deep.RegionHeld3
import Derived.Deep.DrawnRows
namespace Go.Proofs.YtaimealknkhfbaaDoor.ProdI
set_option linter.unusedVariables false
set_option linter.unusedSimpArgs false
set_option linter.ambiguousOpen false
set_option maxRecDepth 100000
open Go.RowKit Mem Copy Rel Valid Heap Bld Columns TidyMath TidyAuto TidyRight SpecFiner SpecRight ToL SpecTidyRel Automaton ImplRight ImplTidied ErrCode OppImpl PairMath PairsI JoinI TwoImpl TapeMath StepI RereadI AddI ProdMath

abbrev and2 : Bool → Bool → Bool := fun a b => a && b
/-- A relation that is the argument itself, or has its accepting states and new rows. -/
structure G (w : World) (Bm : Nat) (l : L) (v : Value) (W : World) : Prop where
  base : Below w.heap.size w W
  rel : RelAt w w.heap.size v (relOf l) ∨ ∃ va vn, v = .agg #[.int .i64 (l.k : Nat), .int .i64 (l.start : Nat), va, vn] ∧ Bools w w.heap.size va l.acc ∧ Built W Bm (.slice none 0 0) vn [] (relOf l).next
theorem G.step {w W W' : World} {Bm : Nat} {l : L} {v : Value} (h : G w Bm l v W) (hb : Below W.heap.size W W') : G w Bm l v W' := by
  refine ⟨h.base.trans (hb.mono h.base.size), ?_⟩
  rcases h.rel with h1 | ⟨va, vn, e, h1, h2⟩
  · exact .inl h1
  · exact .inr ⟨va, vn, e, h1, h2.below hb⟩
theorem G.set4 {w W : World} {Bm Z : Nat} {l : L} {v a b c d : Value} (h : G w Bm l v W) (h1 : w.heap.size ≤ Z) (h2 : Z < Bm) : G w Bm l v (StepI.set4 W Z a b c d) := by
  refine ⟨set4_below h.base h1, ?_⟩
  rcases h.rel with h3 | ⟨va, vn, e, h3, h4⟩
  · exact .inl h3
  · exact .inr ⟨va, vn, e, h3, set4_built h4 h2⟩
theorem G.reads {w W : World} {Bm : Nat} {l : L} {v : Value} (h : G w Bm l v W) : RelAt W W.heap.size v (relOf l) := by
  rcases h.rel with h1 | ⟨va, vn, e, h1, h2⟩
  · exact (h1.below h.base (Nat.le_refl _)).mono h.base.size
  · subst e
    exact ⟨va, vn, rfl, (h1.below h.base (Nat.le_refl _)).mono h.base.size, built_rows h2 W.heap.size (Nat.le_refl _)⟩
theorem G.acc {w W : World} {Bm : Nat} {l : L} {v x y va z : Value} (h : G w Bm l v W) (e : v = .agg #[x, y, va, z]) : Bools w w.heap.size va l.acc := by
  rcases h.rel with h1 | ⟨va', vn, e', h1, h2⟩
  · exact acc_of h1 e
  · rw [e'] at e
    injection e with e
    replace e := congrArg Array.toList e
    simp only [List.cons.injEq, and_true] at e
    obtain ⟨-, -, rfl, -⟩ := e
    exact h1
theorem G.shape {w W : World} {Bm : Nat} {l : L} {v : Value} (h : G w Bm l v W) : ∃ aa na ca ab nb cb, v = .agg #[.int .i64 (l.k : Nat), .int .i64 (l.start : Nat), .slice aa na ca, .slice ab nb cb] := by
  obtain ⟨va, vn, rfl, ha, hx⟩ := h.reads
  obtain ⟨aa, ba, oa, ca, rfl, -, -, -⟩ := ha
  obtain ⟨-, ⟨ab, bb, ob, cb, rfl, -, -, -⟩, -⟩ := hx
  exact ⟨_, _, _, _, _, _, rfl⟩
theorem withG {w W : World} {Bm : Nat} {l : L} (hl : l.Ok) (h2 : l.k ≤ 2) (a : Nat) (ha : a ≤ l.k) (hn : l.acc.length ≤ 1000) {v : Value} (h : G w Bm l v W) (hBm : Bm ≤ W.heap.size) :
    Calls Tryd.prog 40 #[v, .int .i64 a] W fun e W' => ∃ aa na ca ab nb cb, e = .returned (.agg #[.int .i64 ((l.k + 1 : Nat) : Int), .int .i64 (l.start : Nat), .slice aa na ca, .slice ab nb cb]) ∧ G w Bm (reL l (l.k + 1) (leftN (l.k + 1) a)) (.agg #[.int .i64 ((l.k + 1 : Nat) : Int), .int .i64 (l.start : Nat), .slice aa na ca, .slice ab nb cb]) W' ∧ Below W.heap.size W W' := by
  refine (withTapeI l hl h2 a ha v W W.heap.size h.reads (Nat.le_refl _) (by omega)).mono ?_
  rintro e W' ⟨va, vn, rfl, ⟨x, y, z, hv⟩, hbu, hb⟩
  have hg : G w Bm (reL l (l.k + 1) (leftN (l.k + 1) a)) (.agg #[.int .i64 ((l.k + 1 : Nat) : Int), .int .i64 (l.start : Nat), va, vn]) W' :=
    ⟨h.base.trans (hb.mono h.base.size), .inr ⟨va, vn, rfl, h.acc hv, by rw [reL_rel]; exact hbu.mono hBm⟩⟩
  obtain ⟨aa, na, ca, ab, nb, cb, hs⟩ := hg.shape
  injection hs with hs
  replace hs := congrArg Array.toList hs
  simp only [List.cons.injEq, and_true] at hs
  obtain ⟨-, -, rfl, rfl⟩ := hs
  exact ⟨aa, na, ca, ab, nb, cb, rfl, hg, hb⟩

/-- The two boxes, and what lies below them. -/
structure Pr (w : World) (x y : Array Value) (P Q : Nat) (c d : Array Value) (W : World) : Prop where
  k3 : K3 w x y W
  ne : P ≠ Q
  hp : w.heap.size + 3 ≤ P ∧ P < w.heap.size + 5
  hq : w.heap.size + 3 ≤ Q ∧ Q < w.heap.size + 5
  bp : W.heap[P]? = some (.cells c 27 (0, 0))
  bq : W.heap[Q]? = some (.cells d 27 (0, 0))
section
variable {w W W' : World} {x y c d : Array Value} {P Q : Nat}
theorem Pr.size (h : Pr w x y P Q c d W) : w.heap.size + 5 ≤ W.heap.size := by
  have h1 := lt_of_block h.bp
  have h2 := lt_of_block h.bq
  have := h.ne; have := h.hp; have := h.hq
  omega
theorem Pr.step (h : Pr w x y P Q c d W) (hb : Below W.heap.size W W') : Pr w x y P Q c d W' :=
  ⟨Below.trans h.k3 (hb.mono (by have := h.size; omega)), h.ne, h.hp, h.hq, by rw [hb.block P (lt_of_block h.bp)]; exact h.bp, by rw [hb.block Q (lt_of_block h.bq)]; exact h.bq⟩
theorem set4_other {W : World} {Z b : Nat} {p q r s : Value} (h : b ≠ Z) : (set4 W Z p q r s).heap[b]? = W.heap[b]? := by
  rw [Below.heap_setCell _ _ _ _ h, Below.heap_setCell _ _ _ _ h, Below.heap_setCell _ _ _ _ h, Below.heap_setCell _ _ _ _ h]
theorem set4_block {W : World} {Z : Nat} {p q r s a b c d : Value} (h : W.heap[Z]? = some (.cells #[a, b, c, d] 27 (0, 0))) : (set4 W Z p q r s).heap[Z]? = some (.cells #[p, q, r, s] 27 (0, 0)) := by
  have p3 := cells_set (cells_set (cells_set (cells_set h 0 p) 1 q) 2 r) 3 s
  simpa using p3
theorem set4_k3 (h : K3 w x y W) {Z : Nat} {p q r s : Value} (hZ : w.heap.size + 3 ≤ Z) : K3 w x y (set4 W Z p q r s) := set4_below h hZ
theorem Pr.setP {a b c' d' p q r s : Value} (h : Pr w x y P Q #[a, b, c', d'] d W) : Pr w x y P Q #[p, q, r, s] d (set4 W P p q r s) :=
  ⟨set4_k3 h.k3 h.hp.1, h.ne, h.hp, h.hq, set4_block h.bp, by rw [set4_other (fun e => h.ne e.symm)]; exact h.bq⟩
theorem Pr.setQ {a b c' d' p q r s : Value} (h : Pr w x y P Q c #[a, b, c', d'] W) : Pr w x y P Q c #[p, q, r, s] (set4 W Q p q r s) :=
  ⟨set4_k3 h.k3 h.hq.1, h.ne, h.hp, h.hq, by rw [set4_other h.ne]; exact h.bp, set4_block h.bq⟩
theorem Pr.two (h : K3 w x y W) (hs : W.heap.size = w.heap.size + 3) (c d : Array Value) : K3 w x y ((W.alloc (.cells c 27)).alloc (.cells d 27)).drew ∧
    ((W.alloc (.cells c 27)).alloc (.cells d 27)).drew.heap[W.heap.size]? = some (.cells c 27 (0, 0)) ∧
    ((W.alloc (.cells c 27)).alloc (.cells d 27)).drew.heap[W.heap.size + 1]? = some (.cells d 27 (0, 0)) := by
  refine ⟨((Below.alloc h (by omega) _).alloc (by rw [size_alloc']; omega) _).drew, ?_, ?_⟩
  · show ((W.alloc (.cells c 27)).alloc (.cells d 27)).heap[W.heap.size]? = _
    rw [Below.heap_alloc _ _ _ (by rw [size_alloc']; omega)]
    exact heap_alloc_new _ _
  · show ((W.alloc (.cells c 27)).alloc (.cells d 27)).heap[W.heap.size + 1]? = _
    have := heap_alloc_new (W.alloc (.cells c 27)) (.cells d 27)
    rwa [size_alloc'] at this
theorem Pr.new1 (h : K3 w x y W) (hs : W.heap.size = w.heap.size + 3) (c d : Array Value) : Pr w x y W.heap.size (W.heap.size + 1) c d ((W.alloc (.cells c 27)).alloc (.cells d 27)).drew := by
  obtain ⟨h1, h2, h3⟩ := Pr.two h hs c d
  exact ⟨h1, by omega, by omega, by omega, h2, h3⟩
theorem Pr.new2 (h : K3 w x y W) (hs : W.heap.size = w.heap.size + 3) (c d : Array Value) : Pr w x y (W.heap.size + 1) W.heap.size c d ((W.alloc (.cells d 27)).alloc (.cells c 27)).drew := by
  obtain ⟨h1, h2, h3⟩ := Pr.two h hs d c
  exact ⟨h1, by omega, by omega, by omega, h3, h2⟩
end

set_option maxHeartbeats 16000000 in
theorem productI (l m : L) (hl : l.Ok) (hm : m.Ok) (hk : l.k + m.k ≤ 3) (hnl : l.acc.length ≤ 1000) (hnm : m.acc.length ≤ 1000) (v u : Value) (w : World) (h : RelAt w w.heap.size v (relOf l)) (h' : RelAt w w.heap.size u (relOf m)) :
    Calls Tryd.prog 21 #[v, u] w fun e w' => ∃ va vn, ∃ n : Int, e = .returned (.tuple #[.agg #[.int .i64 (joinK and2 (grow true l m.k) (grow false m l.k)), .int .i64 0, va, vn], errV (joinB and2 (grow true l m.k) (grow false m l.k)) n]) ∧ Built w' w.heap.size va vn (joinA and2 (grow true l m.k) (grow false m l.k)) (joinN and2 (grow true l m.k) (grow false m l.k)) ∧ Below w.heap.size w w' := by
  have hl0 := hl.k0
  have hm0 := hm.k0
  have HJ := Lib.hid (fun W p q (h1 : RelAt W W.heap.size p (relOf (grow true l m.k))) (h2 : RelAt W W.heap.size q (relOf (grow false m l.k))) => joinedI and2 (grow true l m.k) (grow false m l.k) (grow_ok hl true m.k (by omega)) (grow_ok hm false l.k (by omega)) (by rw [grow_k, grow_k]; omega) (by rw [grow_acc]; exact hnl) (by rw [grow_acc]; exact hnm) p q 42 (fun _ _ => rfl) bothI W W.heap.size h1 h2 (Nat.le_refl _))
  have HW1 := Lib.hid (fun W Bm v i (hi : i < m.k) (hg : G w Bm (grow true l i) v W) (hB : Bm ≤ W.heap.size) => (show Calls Tryd.prog 40 #[v, .int .i64 ((l.k + i : Nat) : Int)] W fun e W' => ∃ aa na ca ab nb cb, e = .returned (.agg #[.int .i64 ((l.k + (i + 1) : Nat) : Int), .int .i64 (l.start : Nat), .slice aa na ca, .slice ab nb cb]) ∧ G w Bm (grow true l (i + 1)) (.agg #[.int .i64 ((l.k + (i + 1) : Nat) : Int), .int .i64 (l.start : Nat), .slice aa na ca, .slice ab nb cb]) W' ∧ Below W.heap.size W W' from by
    have e1 := grow_k true l i
    have e2 := grow_start true l i
    have := withG (grow_ok hl true i (by omega)) (by omega) (grow true l i).k (Nat.le_refl _) (by rw [grow_acc]; exact hnl) hg hB
    have e3 : grow true l (i + 1) = reL (grow true l i) ((grow true l i).k + 1) (leftN ((grow true l i).k + 1) (grow true l i).k) := rfl
    rw [e3, show l.k + (i + 1) = (grow true l i).k + 1 by omega, show l.k + i = (grow true l i).k by omega, ← e2]
    exact this))
  have HW2 := Lib.hid (fun W Bm v i (hi : i < l.k) (hg : G w Bm (grow false m i) v W) (hB : Bm ≤ W.heap.size) => (show Calls Tryd.prog 40 #[v, .int .i64 0] W fun e W' => ∃ aa na ca ab nb cb, e = .returned (.agg #[.int .i64 ((m.k + (i + 1) : Nat) : Int), .int .i64 (m.start : Nat), .slice aa na ca, .slice ab nb cb]) ∧ G w Bm (grow false m (i + 1)) (.agg #[.int .i64 ((m.k + (i + 1) : Nat) : Int), .int .i64 (m.start : Nat), .slice aa na ca, .slice ab nb cb]) W' ∧ Below W.heap.size W W' from by
    have e1 := grow_k false m i
    have e2 := grow_start false m i
    have := withG (grow_ok hm false i (by omega)) (by omega) 0 (Nat.zero_le _) (by rw [grow_acc]; exact hnm) hg hB
    have e3 : grow false m (i + 1) = reL (grow false m i) ((grow false m i).k + 1) (leftN ((grow false m i).k + 1) 0) := rfl
    rw [e3, show m.k + (i + 1) = (grow false m i).k + 1 by omega, ← e2]
    exact this))
  have HG1 := Lib.hid (show G w (w.heap.size + 5) (grow true l 0) v w from ⟨Below.refl _ _, .inl h⟩)
  have HG2 := Lib.hid (show G w (w.heap.size + 5) (grow false m 0) u w from ⟨Below.refl _ _, .inl h'⟩)
  obtain ⟨K, hK⟩ : ∃ x, x = joinK and2 (grow true l m.k) (grow false m l.k) := ⟨_, rfl⟩
  obtain ⟨A, hA⟩ : ∃ x, x = joinA and2 (grow true l m.k) (grow false m l.k) := ⟨_, rfl⟩
  obtain ⟨N, hN⟩ : ∃ x, x = joinN and2 (grow true l m.k) (grow false m l.k) := ⟨_, rfl⟩
  obtain ⟨Qb, hQ⟩ : ∃ x, x = joinB and2 (grow true l m.k) (grow false m l.k) := ⟨_, rfl⟩
  rw [← hK, ← hA, ← hN, ← hQ] at HJ
  rw [← hK, ← hA, ← hN, ← hQ]
  clear hK hA hN hQ
  obtain ⟨aa1, na1, ca1, ab1, nb1, cb1, rfl⟩ := HG1.out.shape
  obtain ⟨aa2, na2, ca2, ab2, nb2, cb2, rfl⟩ := HG2.out.shape
  obtain ⟨gL, hgL⟩ : ∃ x, x = grow true l := ⟨_, rfl⟩
  obtain ⟨gM, hgM⟩ : ∃ x, x = grow false m := ⟨_, rfl⟩
  have ekl : (grow true l 0).k = l.k := rfl
  have ekm : (grow false m 0).k = m.k := rfl
  have esl : (grow true l 0).start = l.start := rfl
  have esm : (grow false m 0).start = m.start := rfl
  rw [ekl, esl] at HG1 ⊢
  rw [ekm, esm] at HG2 ⊢
  rw [← hgL] at HJ HW1 HG1
  rw [← hgM] at HJ HW2 HG2
  obtain ⟨k1, hk1⟩ : ∃ x, x = l.k := ⟨_, rfl⟩
  obtain ⟨k2, hk2⟩ : ∃ x, x = m.k := ⟨_, rfl⟩
  obtain ⟨s1, hs1⟩ : ∃ x : Int, x = (l.start : Nat) := ⟨_, rfl⟩
  obtain ⟨s2, hs2⟩ : ∃ x : Int, x = (m.start : Nat) := ⟨_, rfl⟩
  rw [← hk1] at hk hl0 HJ HW1 HW2 HG1 ⊢
  rw [← hk2] at hk hm0 HJ HW1 HW2 HG2 ⊢
  rw [← hs1] at HW1 HG1 ⊢
  rw [← hs2] at HW2 HG2 ⊢
  clear hgL hgM ekl ekm esl esm hk1 hk2 hs1 hs2 h h' hl hm hnl hnm
  have HK0 := Lib.hid (show K3 w #[.int .i64 (k1 : Nat), .int .i64 s1, .slice aa1 na1 ca1, .slice ab1 nb1 cb1] #[.int .i64 (k2 : Nat), .int .i64 s2, .slice aa2 na2 ca2, .slice ab2 nb2 cb2] (((w.alloc (.cells #[.int .i64 (k1 : Nat), .int .i64 s1, .slice aa1 na1 ca1, .slice ab1 nb1 cb1] 27)).alloc (.cells #[.int .i64 (k2 : Nat), .int .i64 s2, .slice aa2 na2 ca2, .slice ab2 nb2 cb2] 27)).alloc (.cells #[Value.int .i64 0, .int .i64 0, .slice none 0 0, .slice none 0 0] 27)) from Below.refl _ _)
  go_enter Tryd.func21, Tryd.ntmps21
  go_upto_region 1 with fail
  have x0 := cells_get (K3.box1 HK0.out) 0
  have x1 := cells_get (K3.box1 HK0.out) 1
  have x2 := cells_get (K3.box1 HK0.out) 2
  have x3 := cells_get (K3.box1 HK0.out) 3
  have y0 := cells_get (K3.box2 HK0.out) 0
  have y1 := cells_get (K3.box2 HK0.out) 1
  have y2 := cells_get (K3.box2 HK0.out) 2
  have y3 := cells_get (K3.box2 HK0.out) 3
  have lx := lt_of_block (K3.box1 HK0.out)
  have ly := lt_of_block (K3.box2 HK0.out)
  have hs := K3.size3 w #[.int .i64 (k1 : Nat), .int .i64 s1, .slice aa1 na1 ca1, .slice ab1 nb1 cb1] #[.int .i64 (k2 : Nat), .int .i64 s2, .slice aa2 na2 ca2, .slice ab2 nb2 cb2]
  simp at x0 x1 x2 x3 y0 y1 y2 y3
  generalize hW1 : (((w.alloc (.cells #[.int .i64 (k1 : Nat), .int .i64 s1, .slice aa1 na1 ca1, .slice ab1 nb1 cb1] 27)).alloc (.cells #[.int .i64 (k2 : Nat), .int .i64 s2, .slice aa2 na2 ca2, .slice ab2 nb2 cb2] 27)).alloc (.cells #[Value.int .i64 0, .int .i64 0, .slice none 0 0, .slice none 0 0] 27)) = W1 at HK0 x0 x1 x2 x3 y0 y1 y2 y3 lx ly hs ⊢
  have HS1 := Lib.hid hs
  clear hW1 hs
  go_cut [6, 7] (fun v6 v7 wx => ∃ (P Q : Nat), v6 = .pointer (some ⟨P, 0, none⟩) ∧ v7 = .pointer (some ⟨Q, 0, none⟩) ∧ Pr w #[.int .i64 (k1 : Nat), .int .i64 s1, .slice aa1 na1 ca1, .slice ab1 nb1 cb1] #[.int .i64 (k2 : Nat), .int .i64 s2, .slice aa2 na2 ca2, .slice ab2 nb2 cb2] P Q #[.int .i64 (k1 : Nat), .int .i64 s1, .slice aa1 na1 ca1, .slice ab1 nb1 cb1] #[.int .i64 (k2 : Nat), .int .i64 s2, .slice aa2 na2 ca2, .slice ab2 nb2 cb2] wx)
  case first =>
    go_region
    all_goals
      go_wp2_with fail
      go_meet
      first | exact ⟨_, _, rfl, rfl, Pr.new1 HK0.out HS1.out _ _⟩ | exact ⟨_, _, rfl, rfl, Pr.new2 HK0.out HS1.out _ _⟩
  case rest =>
    obtain ⟨P, Q, rfl, rfl, hpr⟩ := hcut
    have HP := Lib.hid hpr
    have HGL := Lib.hid (HG1.out.step (K3.base hpr.k3))
    have HGM := Lib.hid (HG2.out.step (K3.base hpr.k3))
    clear x0 x1 x2 x3 y0 y1 y2 y3 lx ly HK0 HS1 HG1 HG2
    have y0 := cells_get (K3.box2 hpr.k3) 0
    simp at y0
    clear hpr
    go_wp2_with fail
    go_loopw [12] (fun s12 wr => ∃ (i : Nat) (aa : Option Addr) (na ca : Nat) (ab : Option Addr) (nb cb : Nat), i ≤ k2 ∧ s12 = .int .i64 i ∧ Pr w #[.int .i64 (k1 : Nat), .int .i64 s1, .slice aa1 na1 ca1, .slice ab1 nb1 cb1] #[.int .i64 (k2 : Nat), .int .i64 s2, .slice aa2 na2 ca2, .slice ab2 nb2 cb2] P Q #[.int .i64 ((k1 + i : Nat) : Int), .int .i64 s1, .slice aa na ca, .slice ab nb cb] #[.int .i64 (k2 : Nat), .int .i64 s2, .slice aa2 na2 ca2, .slice ab2 nb2 cb2] wr ∧ G w (w.heap.size + 5) (gL i) (.agg #[.int .i64 ((k1 + i : Nat) : Int), .int .i64 s1, .slice aa na ca, .slice ab nb cb]) wr ∧ G w (w.heap.size + 5) (gM 0) (.agg #[.int .i64 (k2 : Nat), .int .i64 s2, .slice aa2 na2 ca2, .slice ab2 nb2 cb2]) wr) (fun s12 _ => k2 - (intOf s12).toNat)
    case atStart => exact ⟨0, _, _, _, _, _, _, Nat.zero_le _, rfl, HP.out, HGL.out, HGM.out⟩
    case round =>
      obtain ⟨i, aa, na, ca, ab, nb, cb, hi, rfl, hpr, hgl, hgm⟩ := hrel
      have HPR := Lib.hid hpr
      have HGL2 := Lib.hid hgl
      have HGM2 := Lib.hid hgm
      clear HP HGL HGM y0 hgm
      by_cases hlt : i < k2
      · have HC := Lib.hid (HW1.out _ _ _ i hlt hgl hpr.size)
        clear hgl
        obtain ⟨ki, hki⟩ : ∃ x, x = k1 + i := ⟨_, rfl⟩
        have HKI := Lib.hid (show k1 + (i + 1) = ki + 1 by omega)
        rw [← hki] at HC hpr HPR HGL2
        rw [HKI.out] at HC
        have p0 := cells_get hpr.bp 0
        have p1 := cells_get hpr.bp 1
        have p2 := cells_get hpr.bp 2
        have p3 := cells_get hpr.bp 3
        simp at p0 p1 p2 p3
        clear hki hpr
        go_wp2_with fail
        refine HC.out.mono ?_
        rintro e w2 ⟨aa', na', ca', ab', nb', cb', rfl, hg2, hb2⟩
        have HPR2 := Lib.hid (HPR.out.step hb2)
        have HGM3 := Lib.hid (HGM2.out.step hb2)
        have HG2' := Lib.hid hg2
        clear hg2 hb2 p0 p1 p2 p3 HC HPR HGL2 HGM2
        have p0 := cells_get HPR2.out.bp 0
        have p1 := cells_get HPR2.out.bp 1
        have p2 := cells_get HPR2.out.bp 2
        have p3 := cells_get HPR2.out.bp 3
        have f0 := cells_free HPR2.out.bp 0
        have f1 := cells_free HPR2.out.bp 1
        have f2 := cells_free HPR2.out.bp 2
        have f3 := cells_free HPR2.out.bp 3
        have lp := lt_of_block HPR2.out.bp
        simp at p0 p1 p2 p3
        go_wp2_with fail
        go_roundw
        case rel => exact ⟨i + 1, aa', na', ca', ab', nb', cb', hlt, by go_num, by rw [HKI.out]; exact HPR2.out.setP, by rw [HKI.out]; exact HG2'.out.set4 (by have := HPR2.out.hp; omega) HPR2.out.hp.2, HGM3.out.set4 (by have := HPR2.out.hp; omega) HPR2.out.hp.2⟩
        case measure => simp [intOf]; omega
      · obtain rfl : i = k2 := by omega
        have x0 := cells_get (K3.box1 hpr.k3) 0
        simp at x0
        clear hlt hi hpr hgl
        go_wp2_with fail
        go_loopw [21] (fun s21 wr => ∃ (j : Nat) (ac : Option Addr) (nc cc : Nat) (ad : Option Addr) (nd cd : Nat), j ≤ k1 ∧ s21 = .int .i64 j ∧ Pr w #[.int .i64 (k1 : Nat), .int .i64 s1, .slice aa1 na1 ca1, .slice ab1 nb1 cb1] #[.int .i64 (i : Nat), .int .i64 s2, .slice aa2 na2 ca2, .slice ab2 nb2 cb2] P Q #[.int .i64 ((k1 + i : Nat) : Int), .int .i64 s1, .slice aa na ca, .slice ab nb cb] #[.int .i64 ((i + j : Nat) : Int), .int .i64 s2, .slice ac nc cc, .slice ad nd cd] wr ∧ G w (w.heap.size + 5) (gL i) (.agg #[.int .i64 ((k1 + i : Nat) : Int), .int .i64 s1, .slice aa na ca, .slice ab nb cb]) wr ∧ G w (w.heap.size + 5) (gM j) (.agg #[.int .i64 ((i + j : Nat) : Int), .int .i64 s2, .slice ac nc cc, .slice ad nd cd]) wr) (fun s21 _ => k1 - (intOf s21).toNat)
        case atStart => exact ⟨0, _, _, _, _, _, _, Nat.zero_le _, rfl, HPR.out, HGL2.out, HGM2.out⟩
        case round =>
          obtain ⟨j, ac, nc, cc, ad, nd, cd, hj, rfl, hpr, hgl, hgm⟩ := hrel
          have HPQ := Lib.hid hpr
          have HGL3 := Lib.hid hgl
          have HGM3 := Lib.hid hgm
          clear HPR HGL2 HGM2 x0
          by_cases hlt : j < k1
          · have HC := Lib.hid (HW2.out _ _ _ j hlt hgm hpr.size)
            clear hgl hgm
            obtain ⟨kj, hkj⟩ : ∃ x, x = i + j := ⟨_, rfl⟩
            have HKJ := Lib.hid (show i + (j + 1) = kj + 1 by omega)
            rw [← hkj] at HC hpr HPQ HGM3
            rw [HKJ.out] at HC
            have q0 := cells_get hpr.bq 0
            have q1 := cells_get hpr.bq 1
            have q2 := cells_get hpr.bq 2
            have q3 := cells_get hpr.bq 3
            simp at q0 q1 q2 q3
            clear hkj hpr
            go_wp2_with fail
            refine HC.out.mono ?_
            rintro e w2 ⟨ac', nc', cc', ad', nd', cd', rfl, hg2, hb2⟩
            have HPR2 := Lib.hid (HPQ.out.step hb2)
            have HGL4 := Lib.hid (HGL3.out.step hb2)
            have HG2' := Lib.hid hg2
            clear hg2 hb2 q0 q1 q2 q3 HC HPQ HGL3 HGM3
            have q0 := cells_get HPR2.out.bq 0
            have q1 := cells_get HPR2.out.bq 1
            have q2 := cells_get HPR2.out.bq 2
            have q3 := cells_get HPR2.out.bq 3
            have f0 := cells_free HPR2.out.bq 0
            have f1 := cells_free HPR2.out.bq 1
            have f2 := cells_free HPR2.out.bq 2
            have f3 := cells_free HPR2.out.bq 3
            have lq := lt_of_block HPR2.out.bq
            simp at q0 q1 q2 q3
            go_wp2_with fail
            go_roundw
            case rel => exact ⟨j + 1, ac', nc', cc', ad', nd', cd', hlt, by go_num, by rw [HKJ.out]; exact HPR2.out.setQ, HGL4.out.set4 (by have := HPR2.out.hq; omega) HPR2.out.hq.2, by rw [HKJ.out]; exact HG2'.out.set4 (by have := HPR2.out.hq; omega) HPR2.out.hq.2⟩
            case measure => simp [intOf]; omega
          · obtain rfl : j = k1 := by omega
            have HC := Lib.hid (HJ.out _ _ _ hgl.reads hgm.reads)
            have p0 := cells_get hpr.bp 0
            have p1 := cells_get hpr.bp 1
            have p2 := cells_get hpr.bp 2
            have p3 := cells_get hpr.bp 3
            have q0 := cells_get hpr.bq 0
            have q1 := cells_get hpr.bq 1
            have q2 := cells_get hpr.bq 2
            have q3 := cells_get hpr.bq 3
            simp at p0 p1 p2 p3 q0 q1 q2 q3
            clear hpr hgl hgm hlt hj HJ HW1 HW2
            go_wp2_with fail
            refine HC.out.mono ?_
            rintro e w3 ⟨va, vn, n, rfl, hbu, hb3⟩
            have HPR3 := Lib.hid (HPQ.out.step hb3)
            have HBU := Lib.hid (hbu.mono (show w.heap.size + 5 ≤ _ from HPQ.out.size))
            obtain ⟨a8, n8, c8, rfl, -⟩ := hbu.acc.shape'
            obtain ⟨items8, -, hnx8, -⟩ := hbu.rows
            obtain ⟨b8, m8, d8, rfl, -⟩ := hnx8.shape'
            clear hbu hb3 hnx8 p0 p1 p2 p3 q0 q1 q2 q3 HC HPQ HGL3 HGM3
            have hres := K3.res HPR3.out.k3
            have r0 := cells_get hres 0
            have r1 := cells_get hres 1
            have r2 := cells_get hres 2
            have r3 := cells_get hres 3
            have f0 := cells_free hres 0
            have f1 := cells_free hres 1
            have f2 := cells_free hres 2
            have f3 := cells_free hres 3
            have hlS := lt_of_block hres
            simp at r0 r1 r2 r3
            clear hres
            go_wp2_with fail
            obtain ⟨g0, g1, g2, g3⟩ := res4 (a := .int .i64 K) (b := .int .i64 0) (c := .slice a8 n8 c8) (d := .slice b8 m8 d8) (K3.res HPR3.out.k3)
            refine bodyPost_ret (v := .tuple #[.agg #[.int .i64 K, .int .i64 0, .slice a8 n8 c8, .slice b8 m8 d8], errV Qb n]) (by simp [results, Tryd.results21, go_sem, g0, g1, g2, g3]) rfl ⟨.slice a8 n8 c8, .slice b8 m8 d8, n, rfl, ?_, ?_⟩
            · exact (set4_built HBU.out (by omega)).mono (by omega)
            · exact set4_below (K3.base HPR3.out.k3) (by omega)
end Go.Proofs.YtaimealknkhfbaaDoor.ProdI
