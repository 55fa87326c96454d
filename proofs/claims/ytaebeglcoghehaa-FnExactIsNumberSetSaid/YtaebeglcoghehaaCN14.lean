
/- What the program's function that finds the first list of columns for which something holds of what two automata take hands back.
   Conditions: stated at each theorem. -/
import Derived.Test.YtaebeglcoghehaaCN13
import Derived.Deep.RegionWith
import Derived.Deep.DeepCutAuto
import Derived.Deep.CutBlock
namespace Go.Proofs.Ytaebeglcoghehaa.FirstW
set_option linter.unusedVariables false
set_option linter.unusedSimpArgs false
set_option linter.ambiguousOpen false
set_option maxRecDepth 100000
open Go.RowKit Mem Copy Rel Valid Heap Columns Bld TidyMath TidyClass TidyAuto TidyRight SpecFiner SpecRight First FirstTidy Go.Proofs.Ytaebeglcoghehaa.Steps FirstI Alike

/-- The boxes of both arguments hold the right automata. -/
structure AtBoth (w : World) (l m : L) (va1 vn1 va2 vn2 : Value) (W : World) : Prop where
  box1 : W.heap[w.heap.size]? = some (.cells #[.int .i64 l.k, .int .i64 1, va1, vn1] 29 (0, 0))
  box2 : W.heap[w.heap.size + 1]? = some (.cells #[.int .i64 m.k, .int .i64 1, va2, vn2] 29 (0, 0))
  b1 : Built W (w.heap.size + 2) va1 vn1 (accP l) ((nxP l).map ofN)
  b2 : Built W (w.heap.size + 2) va2 vn2 (accP m) ((nxP m).map ofN)
  base : Below w.heap.size w W

theorem set4_at {W : World} {b : Nat} {c : Array Value} {t : TypeId} (h : W.heap[b]? = some (.cells c t (0, 0))) (hc : c.size = 4) (x0 x1 x2 x3 : Value) :
    ((((W.setCell ⟨b, 0, none⟩ x0).setCell ⟨b, 1, none⟩ x1).setCell ⟨b, 2, none⟩ x2).setCell ⟨b, 3, none⟩ x3).heap[b]? = some (.cells #[x0, x1, x2, x3] t (0, 0)) := by
  have h3 := cells_set (cells_set (cells_set (cells_set h 0 x0) 1 x1) 2 x2) 3 x3
  rw [h3]
  match c, hc with
  | ⟨[_, _, _, _]⟩, _ => simp
theorem set4_other {W : World} {b d : Nat} (h : d ≠ b) (x0 x1 x2 x3 : Value) : ((((W.setCell ⟨b, 0, none⟩ x0).setCell ⟨b, 1, none⟩ x1).setCell ⟨b, 2, none⟩ x2).setCell ⟨b, 3, none⟩ x3).heap[d]? = W.heap[d]? := by
  rw [Below.heap_setCell _ _ _ _ h, Below.heap_setCell _ _ _ _ h, Below.heap_setCell _ _ _ _ h, Below.heap_setCell _ _ _ _ h]
theorem set4_built {W : World} {b B : Nat} (h : b < B) {va vn : Value} {acc : List Bool} {nx : List (List Int)} (hb : Built W B va vn acc nx) (x0 x1 x2 x3 : Value) : Built ((((W.setCell ⟨b, 0, none⟩ x0).setCell ⟨b, 1, none⟩ x1).setCell ⟨b, 2, none⟩ x2).setCell ⟨b, 3, none⟩ x3) B va vn acc nx :=
  (((hb.setLow (a := ⟨b, 0, none⟩) h _).setLow (a := ⟨b, 1, none⟩) h _).setLow (a := ⟨b, 2, none⟩) h _).setLow (a := ⟨b, 3, none⟩) h _
theorem set4_below {W V : World} {b B : Nat} (h : B ≤ b) (hb : Below B V W) (x0 x1 x2 x3 : Value) : Below B V ((((W.setCell ⟨b, 0, none⟩ x0).setCell ⟨b, 1, none⟩ x1).setCell ⟨b, 2, none⟩ x2).setCell ⟨b, 3, none⟩ x3) :=
  (((hb.setCell (p := ⟨b, 0, none⟩) h _).setCell (p := ⟨b, 1, none⟩) h _).setCell (p := ⟨b, 2, none⟩) h _).setCell (p := ⟨b, 3, none⟩) h _
theorem both_stored {w W : World} {c d : Array Value} (hk : K2 w c d W) (hc : c.size = 4) (hd : d.size = 4) {l m : L} {va1 vn1 va2 vn2 : Value} (h1 : Built W (w.heap.size + 2) va1 vn1 (accP l) ((nxP l).map ofN)) (h2 : Built W (w.heap.size + 2) va2 vn2 (accP m) ((nxP m).map ofN)) :
    AtBoth w l m va1 vn1 va2 vn2 ((((((((W.setCell ⟨w.heap.size, 0, none⟩ (.int .i64 l.k)).setCell ⟨w.heap.size, 1, none⟩ (.int .i64 1)).setCell ⟨w.heap.size, 2, none⟩ va1).setCell ⟨w.heap.size, 3, none⟩ vn1).setCell ⟨w.heap.size + 1, 0, none⟩ (.int .i64 m.k)).setCell ⟨w.heap.size + 1, 1, none⟩ (.int .i64 1)).setCell ⟨w.heap.size + 1, 2, none⟩ va2).setCell ⟨w.heap.size + 1, 3, none⟩ vn2) := by
  refine ⟨?_, ?_, ?_, ?_, ?_⟩
  · rw [set4_other (by omega)]; exact set4_at (K2.box1 hk) hc _ _ _ _
  · exact set4_at (by rw [set4_other (by omega)]; exact K2.box2 hk) hd _ _ _ _
  · exact set4_built (by omega) (set4_built (by omega) h1 _ _ _ _) _ _ _ _
  · exact set4_built (by omega) (set4_built (by omega) h2 _ _ _ _) _ _ _ _
  · exact set4_below (by omega) (set4_below (Nat.le_refl _) (K2.base hk) _ _ _ _) _ _ _ _

/-! What is met, step by step. -/
def gPP (g : Bool → Bool → Bool) (l m : L) (x : Nat × Nat) : Bool := g ((auP l).acc x.1) ((auP m).acc x.2)
def sn (l m : L) (i j : Nat) : (Nat × Nat) × List Nat := (First.seen (stPP l m) (wide l.k) (1, 1) i).getD j ((1, 1), [])
section
variable {g : Bool → Bool → Bool} {l m : L} {i : Nat}
theorem sn_get {j : Nat} (h : j < (First.seen (stPP l m) (wide l.k) (1, 1) i).length) : sn l m i j = (First.seen (stPP l m) (wide l.k) (1, 1) i)[j] := by
  unfold sn; rw [List.getD_eq_getElem?_getD, List.getElem?_eq_getElem h, Option.getD_some]
theorem sn_lt (hl : l.Ok) (hm : m.Ok) (hk : l.k = m.k) {j : Nat} (h : j < (First.seen (stPP l m) (wide l.k) (1, 1) i).length) : (sn l m i j).1.1 < (auP l).n ∧ (sn l m i j).1.2 < (auP m).n := by
  rw [sn_get h]; exact seen_lt hl hm hk i _ (List.getElem_mem h)
theorem keep_none (hi : i < (First.seen (stPP l m) (wide l.k) (1, 1) i).length) (hn : ∀ j, j < i → gPP g l m (sn l m i j).1 = false) (h : gPP g l m (sn l m i i).1 = false) : ∀ j, j < i + 1 → gPP g l m (sn l m (i + 1) j).1 = false := by
  intro j hj
  have hp : First.seen (stPP l m) (wide l.k) (1, 1) i <+: First.seen (stPP l m) (wide l.k) (1, 1) (i + 1) := bfs_step _ _ _ i
  have hjl : j < (First.seen (stPP l m) (wide l.k) (1, 1) i).length := by omega
  have e : sn l m (i + 1) j = sn l m i j := by rw [sn_get hjl, sn_get (Nat.lt_of_lt_of_le hjl hp.length_le), prefix_get hp hjl]
  rw [e]
  by_cases hji : j < i
  · exact hn j hji
  · obtain rfl : j = i := by omega
    exact h
theorem gPP_lst (hl : l.Ok) (hm : m.Ok) (hk : l.k = m.k) {u : List Nat} (h : First.Lst (wide l.k) (fun p => gPP g l m (run (stPP l m) (1, 1) p) = true) u) : First.Lst (wide l.k) (fun p => g (Tk l p) (Tk m p) = true) u :=
  First.Lst.congr (fun p hp => by show gPP g l m _ = true ↔ _; unfold gPP; rw [takesPP hl hm hk g p hp]) h
theorem done_some (hl : l.Ok) (hm : m.Ok) (hk : l.k = m.k) (hi : i < (First.seen (stPP l m) (wide l.k) (1, 1) i).length) (hn : ∀ j, j < i → gPP g l m (sn l m i j).1 = false) (h : gPP g l m (sn l m i i).1 = true) :
    firstPP g l m = some (sn l m i i).2 ∧ Low (wide l.k) (sn l m i i).2 := by
  rw [sn_get hi] at h ⊢
  have h1 := gPP_lst hl hm hk (first_some (stPP l m) (wide l.k) (1, 1) (gPP g l m) hi (fun j hj => by rw [← sn_get (by omega)]; exact hn j hj) h)
  exact ⟨firstPP_some h1, h1.low⟩
theorem done_none (hl : l.Ok) (hm : m.Ok) (hk : l.k = m.k) (hi : (First.seen (stPP l m) (wide l.k) (1, 1) i).length ≤ i) (hn : ∀ j, j < i → gPP g l m (sn l m i j).1 = false) : firstPP g l m = none := by
  have h1 := first_none (stPP l m) (wide l.k) (1, 1) (gPP g l m) hi (fun j hj => by rw [← sn_get hj]; exact hn j (by omega))
  refine firstPP_none fun p hp hg => h1 p hp ?_
  unfold gPP
  rw [takesPP hl hm hk g p hp]; exact hg
theorem mid_pth {c : Nat} (hi : i < (First.seen (stPP l m) (wide l.k) (1, 1) i).length) : pth (First.mid (stPP l m) (wide l.k) (1, 1) i c) i = (sn l m i i).2 ∧ i < (First.mid (stPP l m) (wide l.k) (1, 1) i c).length := by
  have hp : First.seen (stPP l m) (wide l.k) (1, 1) i <+: First.mid (stPP l m) (wide l.k) (1, 1) i c := part_from _ _ _ i c
  have h1 := Nat.lt_of_lt_of_le hi hp.length_le
  refine ⟨?_, h1⟩
  unfold pth
  rw [List.getD_eq_getElem?_getD, List.getElem?_eq_getElem h1, Option.getD_some, prefix_get hp hi, sn_get hi]
theorem pth_sn (hi : i < (First.seen (stPP l m) (wide l.k) (1, 1) i).length) : pth (First.seen (stPP l m) (wide l.k) (1, 1) i) i = (sn l m i i).2 := by
  unfold pth
  rw [List.getD_eq_getElem?_getD, List.getElem?_eq_getElem hi, Option.getD_some, sn_get hi]
theorem step_par {P : List Q} {c a b : Nat} (hp : Par (wide l.k) P (First.mid (stPP l m) (wide l.k) (1, 1) i c)) (hi : i < (First.seen (stPP l m) (wide l.k) (1, 1) i).length) (hc : c < wide l.k) (ha : a = stA (auP l) (sn l m i i).1.1 c) (hb : b = stA (auP m) (sn l m i i).1.2 c) :
    Par (wide l.k) (TidyMath.meet kq P ⟨a, b, i, c⟩) (First.mid (stPP l m) (wide l.k) (1, 1) i (c + 1)) := by
  obtain ⟨h1, h2⟩ := mid_pth (c := c) hi
  have hl := hp.len
  have h3 := hp.meet (by omega) (i := i) (c := c) (a := a) (b := b) (by omega) hc
  rw [h1] at h3
  rw [mid_step (stPP l m) (wide l.k) (1, 1) hi hc, ← sn_get hi]
  rw [ha, hb] at h3 ⊢
  exact h3
theorem mid_len (hl : l.Ok) (hm : m.Ok) (hk : l.k = m.k) {c : Nat} (hi : i < (First.seen (stPP l m) (wide l.k) (1, 1) i).length) (hc : c ≤ wide l.k) : (First.mid (stPP l m) (wide l.k) (1, 1) i c).length ≤ (auP l).n * (auP m).n := by
  have h1 : First.mid (stPP l m) (wide l.k) (1, 1) i c <+: First.seen (stPP l m) (wide l.k) (1, 1) (i + 1) := by
    rw [← mid_all (stPP l m) (wide l.k) (1, 1) hi]
    unfold First.mid
    rw [part_eq _ _ _ hi, part_eq _ _ _ hi]
    exact row_take_prefix _ _ _ hc
  exact Nat.le_trans h1.length_le (seen_len hl hm hk (i + 1))
end
/-- Nothing has been met yet. -/
theorem met0 (w2 : World) (M n m : Nat) (hM : w2.heap.size = M) (hn : n ≤ 100000000) :
    Go.Proofs.Ytaebeglcoghehaa.Steps.Met (((w2.alloc (.cells (madeCells #[Value.bool false] n) 4)).alloc (.cells #[.slice (some ⟨M, 0, none⟩) n n] 22)).alloc (.cells #[.slice none 0 0] 138)) M (M + 1) (M + 1 + 1) M n m (.slice none 0 0) [] := by
  have s1 : (w2.alloc (.cells (madeCells #[Value.bool false] n) 4)).heap.size = M + 1 := by rw [size_alloc', hM]
  have s2 : ((w2.alloc (.cells (madeCells #[Value.bool false] n) 4)).alloc (.cells #[.slice (some ⟨M, 0, none⟩) n n] 22)).heap.size = M + 1 + 1 := by rw [size_alloc', s1]
  refine ⟨?_, ?_, ?_, Stp.nil _ _, by omega, by omega⟩
  · rw [Below.heap_alloc _ _ _ (by omega), ← s1]; exact heap_alloc_new _ _
  · conv => lhs; rw [← s2]
    exact heap_alloc_new _ _
  · have h1 := Heap.Lst.made w2 M 4 (.bool false) n (by omega) (by unfold maxLen; omega)
    rw [tb_rep, hM, tb_congr (S := metB m []) (fun i _ => (metB_nil m i).symm)] at h1
    exact (h1.alloc _).alloc _

/-- What is handed back. -/
def Ans (g : Bool → Bool → Bool) (l m : L) (w : World) (e : Ending) (w' : World) : Prop :=
  (∃ vc c, firstPP g l m = some c ∧ Low (wide l.k) c ∧ e = .returned (.tuple #[vc, .bool true]) ∧ Heap.Lst w' w.heap.size 2 vc (iv c) ∧ Below w.heap.size w w') ∨
    (firstPP g l m = none ∧ e = .returned (.tuple #[.slice none 0 0, .bool false]) ∧ Below w.heap.size w w')

set_option maxHeartbeats 8000000 in
theorem firstWith (g : Bool → Bool → Bool) (l m : L) (hl : l.Ok) (hm : m.Ok) (hk : l.k = m.k) (hnl : l.acc.length ≤ 150) (hnm : m.acc.length ≤ 150) (v u : Value) (fid : FuncId)
    (hcf : ∀ (args : Array Value) (W : World), (callFunc fid args).run Try.prog W = .ok (.enter fid args) W)
    (hT : ∀ a b W, Calls Try.prog fid #[.bool a, .bool b] W fun e w' => e = .returned (.bool (g a b)) ∧ W = w')
    (w : World) (B : Nat) (h : RelAt w B v (relOf l)) (h' : RelAt w B u (relOf m)) (hB : B ≤ w.heap.size) :
    Calls Try.prog 84 #[v, u, .func (.func fid) #[] #[]] w (Ans g l m w) := by
  have HR1 := Lib.hid (fun W (hb : Below w.heap.size w W) => ImplRight.rightPart l hl v W W.heap.size ((h.below hb hB).mono (Nat.le_trans hB hb.size)) (Nat.le_refl _) (by omega))
  have HR2 := Lib.hid (fun W (hb : Below w.heap.size w W) => ImplRight.rightPart m hm u W W.heap.size ((h'.below hb hB).mono (Nat.le_trans hB hb.size)) (Nat.le_refl _) (by omega))
  obtain ⟨va, vn, rfl, ha, hn⟩ := h
  obtain ⟨aa1, ba, oa, ca1, rfl, -, -, -⟩ := ha
  obtain ⟨-, ⟨ab1, bb, ob, cb1, rfl, -, -, -⟩, -⟩ := hn
  obtain ⟨va, vn, rfl, ha, hn⟩ := h'
  obtain ⟨aa2, ba, oa, ca2, rfl, -, -, -⟩ := ha
  obtain ⟨-, ⟨ab2, bb, ob, cb2, rfl, -, -, -⟩, -⟩ := hn
  simp only [relOf] at HR1 HR2 ⊢
  have HBS := Lib.hid (fun W va1 vn1 va2 vn2 c d (h1 : K2 w c d W) (hc : c.size = 4) (hd : d.size = 4) h2 h3 => both_stored (l := l) (m := m) (va1 := va1) (vn1 := vn1) (va2 := va2) (vn2 := vn2) h1 hc hd h2 h3)
  obtain ⟨k, hkk⟩ : ∃ k, k = l.k := ⟨_, rfl⟩
  have HKK := Lib.hid hkk
  rw [← hk, ← hkk] at HR2 HBS
  rw [← hkk] at HR1
  rw [← hk, ← hkk]
  obtain ⟨s1, hs1⟩ : ∃ s, s = l.start := ⟨_, rfl⟩
  obtain ⟨s2, hs2⟩ : ∃ s, s = m.start := ⟨_, rfl⟩
  obtain ⟨na1, hna1⟩ : ∃ s, s = l.acc.length := ⟨_, rfl⟩
  obtain ⟨na2, hna2⟩ : ∃ s, s = m.acc.length := ⟨_, rfl⟩
  obtain ⟨nb1, hnb1⟩ : ∃ s, s = (l.nx.map ofN).length := ⟨_, rfl⟩
  obtain ⟨nb2, hnb2⟩ : ∃ s, s = (m.nx.map ofN).length := ⟨_, rfl⟩
  rw [← hs1, ← hna1, ← hnb1] at HR1
  rw [← hs2, ← hna2, ← hnb2] at HR2
  rw [← hs1, ← hs2, ← hna1, ← hna2, ← hnb1, ← hnb2]
  have HK := Lib.hid hk
  have HL := Lib.hid hl
  have HM := Lib.hid hm
  have HTT := Lib.hid hT
  clear hs1 hs2 hna1 hna2 hnb1 hnb2 hkk hk hT
  have hmf : ∀ (fn : Fn) (first cap : Array Value) (w : World), (Instr.makeFunc fn first cap).run Try.prog w = .ok (.func fn first cap) w := fun _ _ _ _ => rfl
  have HW0 := Lib.hid (show Below w.heap.size w (((w.alloc (.cells #[.int .i64 k, .int .i64 s1, .slice aa1 na1 ca1, .slice ab1 nb1 cb1] 29)).alloc (.cells #[.int .i64 k, .int .i64 s2, .slice aa2 na2 ca2, .slice ab2 nb2 cb2] 29)).drew) from (base_box (base_box (Below.refl _ w) _) _).drew)
  have HKW := Lib.hid (fun w1 (hb : Below (w.heap.size + 2) (((w.alloc (.cells #[.int .i64 k, .int .i64 s1, .slice aa1 na1 ca1, .slice ab1 nb1 cb1] 29)).alloc (.cells #[.int .i64 k, .int .i64 s2, .slice aa2 na2 ca2, .slice ab2 nb2 cb2] 29)).drew) w1) => (show K2 w #[.int .i64 k, .int .i64 s1, .slice aa1 na1 ca1, .slice ab1 nb1 cb1] #[.int .i64 k, .int .i64 s2, .slice aa2 na2 ca2, .slice ab2 nb2 cb2] w1 from ((Below.refl _ _).drew).trans hb))
  have HC1 := Lib.hid (HR1.out _ HW0.out)
  have tok1 : True := trivial
  go_enter Try.func84, Try.ntmps84
  go_upto_region 1 with fail
  go_cut [] (fun wx => ∃ va1 vn1 va2 vn2, AtBoth w l m va1 vn1 va2 vn2 wx)
  case first =>
    go_region_with (first
      | (go_at_call 55; have _t := tok1; (refine HC1.out.mono ?_); clear _t tok1; (rintro e w1 ⟨va1, vn1, rfl, hb1, hbel1⟩); have HK1 := Lib.hid (HKW.out w1 (by have := hbel1; simpa using this)); have HB1 := Lib.hid (show Built w1 (w.heap.size + 2) va1 vn1 (accP l) ((nxP l).map ofN) from by have := hb1; simpa using this); have HC2 := Lib.hid (HR2.out w1 (K2.base HK1.out)); have y0 := cells_get (K2.box2 HK1.out) 0; have y1 := cells_get (K2.box2 HK1.out) 1; have y2 := cells_get (K2.box2 HK1.out) 2; have y3 := cells_get (K2.box2 HK1.out) 3; have l1 := K2.size HK1.out; simp at y0 y1 y2 y3; obtain ⟨a1, n1, c1, rfl, -⟩ := hb1.acc.shape'; obtain ⟨items1, -, hnx1, -⟩ := hb1.rows; obtain ⟨a2, n2, c2, rfl, -⟩ := hnx1.shape'; clear hb1 hbel1 hnx1)
      | (go_at_call 55; (refine HC2.out.mono ?_); (rintro e w2 ⟨va2, vn2, rfl, hb2, hbel2⟩); have HK2 := Lib.hid (show K2 w #[.int .i64 k, .int .i64 s1, .slice aa1 na1 ca1, .slice ab1 nb1 cb1] #[.int .i64 k, .int .i64 s2, .slice aa2 na2 ca2, .slice ab2 nb2 cb2] w2 from Below.trans HK1.out (hbel2.mono (K2.size HK1.out))); have HB2 := Lib.hid (hb2.mono (K2.size HK1.out)); have HB1 := Lib.hid (HB1.out.below hbel2); obtain ⟨a3, n3, c3, rfl, -⟩ := hb2.acc.shape'; obtain ⟨items2, -, hnx2, -⟩ := hb2.rows; obtain ⟨a4, n4, c4, rfl, -⟩ := hnx2.shape'; clear hb2 hbel2 hnx2 y0 y1 y2 y3 l1; have x0 := cells_get (K2.box1 HK2.out) 0; have x1 := cells_get (K2.box1 HK2.out) 1; have x2 := cells_get (K2.box1 HK2.out) 2; have x3 := cells_get (K2.box1 HK2.out) 3; have f0 := cells_free (K2.box1 HK2.out) 0; have f1 := cells_free (K2.box1 HK2.out) 1; have f2 := cells_free (K2.box1 HK2.out) 2; have f3 := cells_free (K2.box1 HK2.out) 3; have y0 := cells_get (K2.box2 HK2.out) 0; have y1 := cells_get (K2.box2 HK2.out) 1; have y2 := cells_get (K2.box2 HK2.out) 2; have y3 := cells_get (K2.box2 HK2.out) 3; have g0 := cells_free (K2.box2 HK2.out) 0; have g1 := cells_free (K2.box2 HK2.out) 1; have g2 := cells_free (K2.box2 HK2.out) 2; have g3 := cells_free (K2.box2 HK2.out) 3; have l2 := K2.size HK2.out; simp at x0 x1 x2 x3 y0 y1 y2 y3))
    all_goals
      go_wp2_with fail
      go_meet
      exact ⟨_, _, _, _, HBS.out _ _ _ _ _ _ _ HK2.out rfl rfl HB1.out HB2.out⟩
  case rest =>
    obtain ⟨va1, vn1, va2, vn2, hcut⟩ := hcut
    obtain ⟨b4, c4, b6, c6, rfl, rfl, hb4, hb6, hR1⟩ := right_read (l := l) HL.out hcut.b1 (Nat.le_refl wc.heap.size)
    obtain ⟨d4, e4, d6, e6, rfl, rfl, hd4, hd6, hR2⟩ := right_read (l := m) HM.out hcut.b2 (Nat.le_refl wc.heap.size)
    have hwM := lt_of_block hcut.box2
    have HBASE := Lib.hid hcut.base
    obtain ⟨M, hM⟩ : ∃ M, M = wc.heap.size := ⟨_, rfl⟩
    rw [← hM] at hR1 hR2 hb4 hb6 hd4 hd6 hwM
    have hN1 : (auP l).n ≤ 1201 := by
      have h1 := places_len HL.out (l.acc.length * 8)
      show (F l).length + 1 ≤ 1201
      have : (F l).length = (places l (l.acc.length * 8)).length := rfl
      omega
    have hN2 : (auP m).n ≤ 1201 := by
      have h1 := places_len HM.out (m.acc.length * 8)
      show (F m).length + 1 ≤ 1201
      have : (F m).length = (places m (m.acc.length * 8)).length := rfl
      omega
    have h11 : 1 < (auP l).n := Nat.succ_lt_succ (F_pos l)
    have h12 : 1 < (auP m).n := Nat.succ_lt_succ (F_pos m)
    have hw26 : wide l.k ≤ 26 := by have := wide_cases HL.out.k0 HL.out.k3; omega
    have hwk : wide m.k = wide l.k := by rw [HK.out]
    have HR1 := Lib.hid hR1
    have HR2 := Lib.hid hR2
    have HRW1 := Lib.hid hR1.row
    have HRA1 := Lib.hid hR1.acc
    have HRA2 := Lib.hid HR2.out.acc
    have HRW2 := Lib.hid (show ∀ s, s < (auP m).n → ∃ b cp, b < M ∧ ∀ W, Below M wc W → W.cell? ⟨d6, s, none⟩ = some (.slice (some ⟨b, 0, none⟩) (wide l.k) cp) ∧ ∀ c, c < wide l.k → W.cell? ⟨b, c, none⟩ = some (.int .i64 ((stA (auP m) s c : Nat) : Int)) by rw [← hwk]; exact HR2.out.row)
    have HXB := Lib.hid (fun W (hb : Below M wc W) => (show (W.cell? ⟨w.heap.size, 1, none⟩ = some (.int .i64 1) ∧ W.cell? ⟨w.heap.size, 2, none⟩ = some (.slice (some ⟨b4, 0, none⟩) (auP l).n c4) ∧ W.cell? ⟨w.heap.size, 3, none⟩ = some (.slice (some ⟨b6, 0, none⟩) (auP l).n c6)) ∧ (W.cell? ⟨w.heap.size + 1, 1, none⟩ = some (.int .i64 1) ∧ W.cell? ⟨w.heap.size + 1, 2, none⟩ = some (.slice (some ⟨d4, 0, none⟩) (auP m).n e4) ∧ W.cell? ⟨w.heap.size + 1, 3, none⟩ = some (.slice (some ⟨d6, 0, none⟩) (auP m).n e6)) from by
      have h1 : w.heap.size < M := by omega
      refine ⟨⟨?_, ?_, ?_⟩, ?_, ?_, ?_⟩
      · rw [hb.cell (p := ⟨w.heap.size, 1, none⟩) h1, cells_get hcut.box1]; rfl
      · rw [hb.cell (p := ⟨w.heap.size, 2, none⟩) h1, cells_get hcut.box1]; rfl
      · rw [hb.cell (p := ⟨w.heap.size, 3, none⟩) h1, cells_get hcut.box1]; rfl
      · rw [hb.cell (p := ⟨w.heap.size + 1, 1, none⟩) hwM, cells_get hcut.box2]; rfl
      · rw [hb.cell (p := ⟨w.heap.size + 1, 2, none⟩) hwM, cells_get hcut.box2]; rfl
      · rw [hb.cell (p := ⟨w.heap.size + 1, 3, none⟩) hwM, cells_get hcut.box2]; rfl))
    have HSL := Lib.hid (fun i => seen_len HL.out HM.out HK.out i)
    have HML := Lib.hid (fun i c h1 h2 => mid_len HL.out HM.out HK.out (i := i) (c := c) h1 h2)
    have HLT := Lib.hid (fun i j h1 => sn_lt HL.out HM.out HK.out (i := i) (j := j) h1)
    have HST1 := Lib.hid (fun s c h1 h2 => stA_ltP HL.out (s := s) (c := c) h1 h2)
    have HST2 := Lib.hid (fun s c h1 (h2 : c < wide l.k) => stA_ltP HM.out (s := s) (c := c) h1 (by rw [hwk]; exact h2))
    obtain ⟨n1, hn1⟩ : ∃ n, n = (auP l).n := ⟨_, rfl⟩
    obtain ⟨n2, hn2⟩ : ∃ n, n = (auP m).n := ⟨_, rfl⟩
    obtain ⟨wd, hwd⟩ : ∃ n, n = wide l.k := ⟨_, rfl⟩
    rw [← hn1] at hN1 h11 HXB HSL HML HLT HST1 HRW1 HRA1
    rw [← hn2] at hN2 h12 HXB HSL HML HLT HST2 HRW2 HRA2
    rw [← hwd] at HRW1 HRW2 HST1 HST2 hw26
    have HWD := Lib.hid hwd
    obtain ⟨n, hn⟩ : ∃ n, n = n1 * n2 := ⟨_, rfl⟩
    have hnb : n ≤ 1442401 := by rw [hn]; exact Nat.mul_le_mul hN1 hN2
    have HNN := Lib.hid hn
    have hmul : IntKind.i64.wrap ((n1 : Int) * (n2 : Int)) = ((n : Nat) : Int) := by
      have : ((n1 * n2 : Nat) : Int) = (n1 : Int) * (n2 : Int) := Int.natCast_mul _ _
      rw [← this, ← hn, IntKind.wrap_i64]; omega
    have hmk := run_make_row' (P := Try.prog) 22 4 (.bool false) 1 Try.underlying22 info4 rfl .i64 .i64 n (by omega) (by omega)
    have HMET := Lib.hid (met0 wc M n n2 hM.symm (by omega))
    have HBEL := Lib.hid (show Below M wc (((wc.alloc (.cells (madeCells #[Value.bool false] n) 4)).alloc (.cells #[.slice (some ⟨M, 0, none⟩) n n] 22)).alloc (.cells #[.slice none 0 0] 138)) by
      refine Below.alloc (Below.alloc (Below.alloc (Below.refl _ _) ?_ _) ?_ _) ?_ _
      all_goals (first | omega | (simp only [size_alloc']; omega)))
    obtain ⟨⟨x1, x2, x3⟩, y1, y2, y3⟩ := HXB.out wc (Below.refl _ _)
    have HWM := Lib.hid hwM
    clear hR1 hR2 HR1 HR2 hcut hn1 hn2 hwd hn hwk
    go_upto_region 5 with fail
    rw [← hM]
    obtain ⟨w5, hw5⟩ : ∃ w5, w5 = (((wc.alloc (.cells (madeCells #[Value.bool false] n) 4)).alloc (.cells #[.slice (some ⟨M, 0, none⟩) n n] 22)).alloc (.cells #[.slice none 0 0] 138)) := ⟨_, rfl⟩
    rw [← hw5] at HMET HBEL ⊢
    have HM5 := Lib.hid (show M + 2 < w5.heap.size by rw [hw5]; simp only [size_alloc']; omega)
    clear hw5 hmk hmul x1 x2 x3 y1 y2 y3 hM
    obtain ⟨⟨x1, x2, x3⟩, y1, y2, y3⟩ := HXB.out w5 HBEL.out
    have HMEET := Lib.hid (show Calls Try.prog 119 #[.agg #[.int .i64 1, .int .i64 1, .int .i64 0, .int .i64 0], .pointer (some ⟨w.heap.size + 1, 0, none⟩), .pointer (some ⟨M + 1, 0, none⟩), .pointer (some ⟨M + 1 + 1, 0, none⟩)] w5 fun e w' => e = .returned (.tuple #[]) ∧ ∃ v', Go.Proofs.Ytaebeglcoghehaa.Steps.Met w' M (M + 1) (M + 1 + 1) M n n2 v' [⟨1, 1, 0, 0⟩] ∧ MetFrame w5 w' (M + 1 + 1) M (.slice none 0 0) v' from
      Go.Proofs.Ytaebeglcoghehaa.Steps.meet ⟨1, 1, 0, 0⟩ w5 M (w.heap.size + 1) (M + 1) (M + 1 + 1) M n n2 e6 (some ⟨d6, 0, none⟩) (.slice none 0 0) [] HMET.out (by have := HM5.out; omega) y3 (by decide) h12 (by omega) (by unfold Go.Proofs.Ytaebeglcoghehaa.Steps.code; rw [HNN.out]; exact PairMath.pair_lt h11 h12) (by simp))
    go_wp2_with fail
    refine HMEET.out.mono ?_
    rintro e w6 ⟨rfl, v6, hm6, hf6⟩
    have HM6 := Lib.hid hm6
    have HB6 := Lib.hid (HBEL.out.trans (MetFrame.below hf6 HMET.out (by have := HM5.out; omega)))
    have HS6 := Lib.hid (show M + 2 < w6.heap.size from Nat.lt_of_lt_of_le HM5.out hf6.size)
    clear hm6 hf6 HMEET HMET HBEL x1 x2 x3 y1 y2 y3
    go_wp2_with fail
    go_loopw [11] (fun v11 wr => ∃ (i : Nat) (vv : Value) (P : List Q), v11 = .int .i64 i ∧ i ≤ P.length ∧ Go.Proofs.Ytaebeglcoghehaa.Steps.Met wr M (M + 1) (M + 1 + 1) M n n2 vv P ∧ Par (wide l.k) P (First.seen (stPP l m) (wide l.k) (1, 1) i) ∧ (∀ j, j < i → gPP g l m (sn l m i j).1 = false) ∧ Below M wc wr ∧ M + 2 < wr.heap.size) (fun v11 _ => n - (intOf v11).toNat)
    case atStart => exact ⟨0, v6, [⟨1, 1, 0, 0⟩], rfl, Nat.zero_le _, HM6.out, Par.one _ _ _, fun j hj => absurd hj (Nat.not_lt_zero j), HB6.out, HS6.out⟩
    case round =>
      obtain ⟨i, vv, P, rfl, hiP, hmet, hpar, hno, hbel, hsz⟩ := hrel
      have HME := Lib.hid hmet
      have HPA := Lib.hid hpar
      have HNO := Lib.hid hno
      have HBL := Lib.hid hbel
      have HSZ := Lib.hid hsz
      have hPlen : P.length ≤ n := by rw [hpar.len, HNN.out]; exact HSL.out i
      have c9 := cells_get hmet.boxS 0
      simp at c9
      have hlS := lt_of_block hmet.boxS
      obtain ⟨a5, n5, cp5, rfl, hn5⟩ := hmet.lst.shape
      have hn5 : n5 = P.length := hn5
      clear hmet hpar hno hbel hsz HM6 HB6 HS6
      by_cases hlt : i < P.length
      · obtain ⟨g5, ea5, hg5⟩ := HME.out.lst.addr (by omega)
        subst ea5
        subst hn5
        have HIL := Lib.hid (show i < (First.seen (stPP l m) (wide l.k) (1, 1) i).length by rw [← HPA.out.len]; exact hlt)
        obtain ⟨k0, k1, k2, k3⟩ := HME.out.lst.cells hlt
        have hkey := HPA.out.key hlt HIL.out
        rw [← sn_get HIL.out] at hkey
        have hab := HLT.out i i HIL.out
        obtain ⟨a, ha⟩ : ∃ a, a = (sn l m i i).1.1 := ⟨_, rfl⟩
        obtain ⟨b, hb⟩ : ∃ b, b = (sn l m i i).1.2 := ⟨_, rfl⟩
        have hka : P[i].l = a := by rw [ha, ← hkey]; rfl
        have hkb : P[i].r = b := by rw [hb, ← hkey]; rfl
        obtain ⟨qf, hqf⟩ : ∃ f, f = P[i].f := ⟨_, rfl⟩
        obtain ⟨qc, hqc⟩ : ∃ f, f = P[i].c := ⟨_, rfl⟩
        rw [hka] at k0
        rw [hkb] at k1
        rw [← hqf] at k2
        rw [← hqc] at k3
        rw [← ha, ← hb] at hab
        obtain ⟨han, hbn⟩ := hab
        have HA := Lib.hid ha
        have HB := Lib.hid hb
        clear hkey hka hkb hqf hqc ha hb
        obtain ⟨⟨x1, x2, x3⟩, y1, y2, y3⟩ := HXB.out _ HBL.out
        have z1 := HRA1.out _ HBL.out a han
        have z2 := HRA2.out _ HBL.out b hbn
        have HGV := Lib.hid (show gPP g l m (sn l m i i).1 = g ((auP l).acc a) ((auP m).acc b) by unfold gPP; rw [← HA.out, ← HB.out])
        obtain ⟨t1, ht1⟩ : ∃ t, t = (auP l).acc a := ⟨_, rfl⟩
        obtain ⟨t2, ht2⟩ : ∃ t, t = (auP m).acc b := ⟨_, rfl⟩
        rw [← ht1] at z1 HGV
        rw [← ht2] at z2 HGV
        have hl6 : d6 < wr.heap.size := by have := HSZ.out; omega
        have hl4 : b4 < wr.heap.size := by have := HSZ.out; omega
        have hl4' : d4 < wr.heap.size := by have := HSZ.out; omega
        have hl6' : b6 < wr.heap.size := by have := HSZ.out; omega
        have hlw : w.heap.size < wr.heap.size := by have := HSZ.out; have := HWM.out; omega
        have hlw1 : w.heap.size + 1 < wr.heap.size := by have := HSZ.out; have := HWM.out; omega
        have HTV := Lib.hid (fun W => HTT.out t1 t2 W)
        obtain ⟨gv, hgv⟩ : ∃ x, x = g t1 t2 := ⟨_, rfl⟩
        rw [← hgv] at HGV HTV
        clear ht1 ht2 hgv
        have hI1 : (a : Int) < (n1 : Int) := by omega
        have hI2 : (b : Int) < (n2 : Int) := by omega
        have hJ1 : 0 ≤ (a : Int) := by omega
        have hJ2 : 0 ≤ (b : Int) := by omega
        go_wp2_with fail
        go_quiet ((exact (HTV.out _).mono fun _ _ ⟨he, hw⟩ => ⟨he, _, hw.symm⟩))
        have HB7 := Lib.hid (show Below M wc ((wr.alloc (.cells #[.int .i64 (a : Nat), .int .i64 (b : Nat), .int .i64 (qf : Nat), .int .i64 (qc : Nat)] 140)).drewN nq) from below_drewN (HBL.out.alloc (by have := HSZ.out; omega) _) _)
        have HM7 := Lib.hid ((HME.out.alloc (.cells #[.int .i64 (a : Nat), .int .i64 (b : Nat), .int .i64 (qf : Nat), .int .i64 (qc : Nat)] 140)).drewN nq)
        have HP7 := Lib.hid (show ((wr.alloc (.cells #[.int .i64 (a : Nat), .int .i64 (b : Nat), .int .i64 (qf : Nat), .int .i64 (qc : Nat)] 140)).drewN nq).heap[wr.heap.size]? = some (.cells #[.int .i64 (a : Nat), .int .i64 (b : Nat), .int .i64 (qf : Nat), .int .i64 (qc : Nat)] 140 (0, 0)) from heap_alloc_new _ _)
        have HS7 := Lib.hid (show wr.heap.size < ((wr.alloc (.cells #[.int .i64 (a : Nat), .int .i64 (b : Nat), .int .i64 (qf : Nat), .int .i64 (qc : Nat)] 140)).drewN nq).heap.size from by show _ < (wr.alloc _).heap.size; rw [size_alloc']; omega)
        generalize (wr.alloc (.cells #[.int .i64 (a : Nat), .int .i64 (b : Nat), .int .i64 (qf : Nat), .int .i64 (qc : Nat)] 140)).drewN nq = w7 at HB7 HM7 HP7 HS7 ⊢
        have hpg := hg5
        have hpM := HSZ.out
        generalize wr.heap.size = pb at HP7 HS7 hpg hpM ⊢
        have HPG := Lib.hid hpg
        have HPM := Lib.hid hpM
        clear hpg hpM k0 k1 k2 k3 x1 x2 x3 y1 y2 y3 z1 z2 hl6 hl4 hl4' hl6' hlw hlw1 hI1 hI2 hJ1 hJ2 HTV c9 hlS hg5 HME HBL HSZ hiP
        have c9 := cells_get HM7.out.boxS 0
        simp at c9
        have hlS := lt_of_block HM7.out.boxS
        cases gv with
        | true =>
          have HD := Lib.hid (done_some HL.out HM.out HK.out HIL.out HNO.out HGV.out)
          have HBK := Lib.hid (back w7 M (wide l.k) _ P _ HPA.out HM7.out.lst i hlt (by omega))
          rw [pth_sn HIL.out] at HBK
          go_wp2_with fail
          refine HBK.out.mono ?_
          rintro e w8 ⟨vc, rfl, hl8, hb8⟩
          obtain ⟨a8, n8, c8, rfl, -⟩ := hl8.shape'
          have HL8 := Lib.hid hl8
          have HB8 := Lib.hid hb8
          clear hl8 hb8
          go_wp2_with fail
          go_ret2
          exact .inl ⟨_, _, HD.out.1, HD.out.2, rfl, HL8.out.mono (by have := HS7.out; have := HPM.out; have := HWM.out; omega), HBASE.out.trans ((HB7.out.trans (HB8.out.mono (by have := HS7.out; have := HPM.out; omega))).mono (by have := HWM.out; omega))⟩
        | false =>
          obtain ⟨b8, cp8, hb8, hrow⟩ := HRW1.out a han
          obtain ⟨r9, -⟩ := hrow w7 HB7.out
          have HROW := Lib.hid hrow
          obtain ⟨⟨x1, x2, x3⟩, y1, y2, y3⟩ := HXB.out w7 HB7.out
          have p0 := cells_get HP7.out 0
          have p1 := cells_get HP7.out 1
          simp at p0 p1
          have hlp := HS7.out
          have hI1 : (a : Int) < (n1 : Int) := by omega
          clear hrow
          go_wp2_with fail
          go_loopw [69] (fun v69 wr' => ∃ (c : Nat) (v2 : Value) (P2 : List Q), c ≤ wd ∧ v69 = .int .i64 c ∧ Go.Proofs.Ytaebeglcoghehaa.Steps.Met wr' M (M + 1) (M + 1 + 1) M n n2 v2 P2 ∧ Par (wide l.k) P2 (First.mid (stPP l m) (wide l.k) (1, 1) i c) ∧ wr'.heap[pb]? = some (.cells #[.int .i64 (a : Nat), .int .i64 (b : Nat), .int .i64 (qf : Nat), .int .i64 (qc : Nat)] 140 (0, 0)) ∧ v2.ownBlock ≠ some pb ∧ Below M wc wr') (fun v69 _ => wd - (intOf v69).toNat)
          case atStart =>
            exact ⟨0, _, P, Nat.zero_le _, rfl, HM7.out, by rw [mid_zero]; exact HPA.out, HP7.out, fun e => by have := HPG.out; have e : g5 = pb := Option.some.inj e; omega, HB7.out⟩
          case round =>
            obtain ⟨c, v2, P2, hc, rfl, hmet, hpar, hpbx, hvp, hbel⟩ := hrel
            have HME2 := Lib.hid hmet
            have HPA2 := Lib.hid hpar
            have HPB2 := Lib.hid hpbx
            have HVP2 := Lib.hid hvp
            have HBL2 := Lib.hid hbel
            clear x1 x2 x3 y1 y2 y3 p0 p1 r9 c9 hlS hlp hmet hpar hpbx hvp hbel HB7 HM7 HP7 HS7
            by_cases hlc : c < wd
            · obtain ⟨r9, r10⟩ := HROW.out wr HBL2.out
              have r11 := r10 c hlc
              obtain ⟨⟨x1, x2, x3⟩, y1, y2, y3⟩ := HXB.out wr HBL2.out
              obtain ⟨b9, cp9, hb9, hrow2⟩ := HRW2.out b hbn
              obtain ⟨s9, s10⟩ := hrow2 wr HBL2.out
              have s11 := s10 c hlc
              have p0 := cells_get HPB2.out 0
              have p1 := cells_get HPB2.out 1
              simp at p0 p1
              have hlp := lt_of_block HPB2.out
              have hI2 : (b : Int) < (n2 : Int) := by omega
              have HSA1 := Lib.hid (HST1.out a c han hlc)
              have HSA2 := Lib.hid (HST2.out b c hbn hlc)
              obtain ⟨a', ha'⟩ : ∃ x, x = stA (auP l) a c := ⟨_, rfl⟩
              obtain ⟨b', hb'⟩ : ∃ x, x = stA (auP m) b c := ⟨_, rfl⟩
              have HA' := Lib.hid ha'
              have HB' := Lib.hid hb'
              rw [← ha'] at r11 HSA1
              rw [← hb'] at s11 HSA2
              have HPN := Lib.hid (show P2.length ≤ n by rw [HPA2.out.len, HNN.out]; exact HML.out i c HIL.out (by rw [← HWD.out]; exact hc))
              have HMEET := Lib.hid (Go.Proofs.Ytaebeglcoghehaa.Steps.meet ⟨a', b', i, c⟩ wr M (w.heap.size + 1) (M + 1) (M + 1 + 1) M n n2 e6 (some ⟨d6, 0, none⟩) v2 P2 HME2.out (by have := HBL2.out.size; have := hlp; have := HPM.out; omega) y3 (by show a' ≤ 10000; have := HSA1.out; omega) HSA2.out (by omega) (by unfold Go.Proofs.Ytaebeglcoghehaa.Steps.code; rw [HNN.out]; exact PairMath.pair_lt HSA1.out HSA2.out) (by have := HPN.out; omega))
              have HPS := Lib.hid (step_par (a := a') (b := b') (c := c) (l := l) (m := m) (i := i) (P := P2) HPA2.out HIL.out (by rw [← HWD.out]; exact hlc) (by rw [HA'.out, HA.out]) (by rw [HB'.out, HB.out]))
              simp only at HMEET
              clear r10 s10 hrow2 ha' hb'
              go_wp2_with fail
              refine HMEET.out.mono ?_
              rintro e w9 ⟨rfl, v9, hm9, hf9⟩
              have HM9 := Lib.hid hm9
              have HF9 := Lib.hid hf9
              clear hm9 hf9
              go_wp2_with fail
              go_roundw
              case rel =>
                refine ⟨c + 1, v9, _, hlc, by go_num, HM9.out, HPS.out, ?_, ?_, HBL2.out.trans (MetFrame.below HF9.out HME2.out (by have := hlp; have := HPM.out; omega))⟩
                · rw [HF9.out.block pb hlp (by have := HPM.out; omega) (by have := HPM.out; omega) HVP2.out]; exact HPB2.out
                · rcases HF9.out.at_ with e | ⟨q, e, hq⟩
                  · rw [e]; exact HVP2.out
                  · rw [e]; intro e2; have e2 := Option.some.inj e2; omega
              case measure => simp [intOf]; omega
            · obtain rfl : c = wd := by omega
              have HPE := Lib.hid (show First.mid (stPP l m) (wide l.k) (1, 1) i c = First.seen (stPP l m) (wide l.k) (1, 1) (i + 1) by rw [HWD.out]; exact mid_all _ _ _ HIL.out)
              have hlp := lt_of_block HPB2.out
              have HLP := Lib.hid hlp
              have HP3 := Lib.hid (show P2.length ≤ n by rw [HPA2.out.len, HNN.out]; exact HML.out i c HIL.out (by rw [← HWD.out]; exact Nat.le_refl _))
              have hii : IntKind.i64.wrap ((i : Int) + 1) = (i : Int) + 1 := by rw [IntKind.wrap_i64]; omega
              clear hlp
              go_wp2_with fail
              go_roundw
              case rel =>
                refine ⟨i + 1, v2, P2, by go_num, ?_, HME2.out, by rw [← HPE.out]; exact HPA2.out, keep_none HIL.out HNO.out HGV.out, HBL2.out, by have := HLP.out; have := HPM.out; omega⟩
                rw [HPA2.out.len, HPE.out]
                have h1 : First.seen (stPP l m) (wide l.k) (1, 1) i <+: First.seen (stPP l m) (wide l.k) (1, 1) (i + 1) := bfs_step _ _ _ i
                have := h1.length_le
                have := HIL.out
                omega
              case measure => simp [intOf]; omega
      · obtain rfl : i = P.length := by omega
        have HFN := Lib.hid (done_none HL.out HM.out HK.out (by rw [← HPA.out.len]; exact Nat.le_refl _) HNO.out)
        subst hn5
        go_wp2_with fail
        go_ret2
        exact .inr ⟨HFN.out, rfl, HBASE.out.trans (HBL.out.mono (by have := HWM.out; omega))⟩
end Go.Proofs.Ytaebeglcoghehaa.FirstW
