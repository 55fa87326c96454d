
/- What the program's TurnTransducer answers: a transducer in memory of its own, and a code.
   Conditions: the transducer is read as XEdg's text says. -/
import Derived.Test.YtjoiaenkmmmmpaaTrLawKit
import Derived.Test.YtjoiaenkmmmmpaaTrImplValid
import Derived.Test.YtjoiaenkmmmmpaaCloneB
namespace Go.Proofs.Ytjoiaenkmmmmpaa.TurnImpl
set_option linter.unusedVariables false
set_option linter.unusedSimpArgs false
open Go.RowKit Mem Copy Rel Heap MarkRow Edg EdgCopy EdgEq TrHeap TrLawKit TrValid TrImplValid CloneB

def flipE (e : E) : E := ⟨e.src, e.dst, e.out, e.inn⟩

/-- What a valid transducer is like. -/
theorem ok_parts {t : T} (h : okT t = true) : 1 ≤ t.accept.length ∧ t.accept.length ≤ 40 ∧ t.edges.length ≤ 200 ∧ 0 ≤ t.start ∧ t.start ≤ (t.accept.length : Int) - 1 ∧ t.edges.all (edgeOk t.accept.length) = true := by
  unfold okT formT at h
  simp only [Bool.and_eq_true, decide_eq_true_eq] at h
  obtain ⟨⟨h1, h2⟩, h3, h4⟩ := h
  unfold Columns.inB at h3
  have h5 := of_decide_eq_true h3
  exact ⟨by omega, by omega, by omega, h5.1, h5.2, h4⟩
theorem edge_ok {es : List E} {n : Int} (h : es.all (edgeOk n) = true) (k : Nat) (hk : k < es.length) : edgeOk n (es.getD k noE) = true := by
  rw [List.all_eq_true] at h
  refine h _ ?_
  rw [List.getD, List.getElem?_eq_getElem hk, Option.getD_some]
  exact List.getElem_mem hk

/-- A box and the result's block, and what is made behind them. -/
abbrev K2 (w : World) (c : Array Value) (W : World) : Prop := Below (w.heap.size + 2) ((w.alloc (.cells c 30)).alloc (.cells #[Value.int .i64 0, .slice none 0 0, .slice none 0 0] 30)) W
section
variable {w W : World} {c : Array Value}
theorem K2.size2 (w : World) (c : Array Value) : ((w.alloc (.cells c 30)).alloc (.cells #[Value.int .i64 0, .slice none 0 0, .slice none 0 0] 30)).heap.size = w.heap.size + 2 := by rw [size_alloc', size_alloc']
theorem K2.size (h : K2 w c W) : w.heap.size + 2 ≤ W.heap.size := by have := Below.size h; rw [K2.size2] at this; exact this
theorem K2.base (h : K2 w c W) : Below w.heap.size w W := (base_box (base_box (Below.refl _ w) _) _).trans (Below.mono h (by omega))
theorem K2.box (h : K2 w c W) : W.heap[w.heap.size]? = some (.cells c 30 (0, 0)) := by
  rw [Below.block h _ (by omega), Below.heap_alloc _ _ _ (by rw [size_alloc']; omega)]; exact heap_alloc_new _ _
theorem K2.res (h : K2 w c W) : W.heap[w.heap.size + 1]? = some (.cells #[Value.int .i64 0, .slice none 0 0, .slice none 0 0] 30 (0, 0)) := by
  rw [Below.block h _ (by omega)]
  have := heap_alloc_new (w.alloc (.cells c 30)) (.cells #[Value.int .i64 0, .slice none 0 0, .slice none 0 0] 30)
  rwa [size_alloc'] at this
theorem K2.step {W' : World} (h : K2 w c W) (hb : Below W.heap.size W W') : K2 w c W' := Below.trans h (hb.mono (K2.size h))
end
theorem cell_of_block {W : World} {g : Nat} {cs : Array Value} {t : TypeId} (h : W.heap[g]? = some (.cells cs t (0, 0))) (i : Nat) : W.cell? ⟨g, i, none⟩ = cs[i]? ∧ W.frozen? ⟨g, i, none⟩ = false := by
  constructor
  · simp [World.cell?, h]
  · simp [World.frozen?, h]

theorem K2.cells {w W : World} {c : Array Value} (h : K2 w c W) : W.cell? ⟨w.heap.size + 1, 0, none⟩ = some (.int .i64 0) ∧ W.cell? ⟨w.heap.size + 1, 1, none⟩ = some (.slice none 0 0) ∧ W.cell? ⟨w.heap.size + 1, 2, none⟩ = some (.slice none 0 0) ∧
    W.frozen? ⟨w.heap.size + 1, 0, none⟩ = false ∧ W.frozen? ⟨w.heap.size + 1, 1, none⟩ = false ∧ W.frozen? ⟨w.heap.size + 1, 2, none⟩ = false :=
  ⟨(cell_of_block (K2.res h) 0).1, (cell_of_block (K2.res h) 1).1, (cell_of_block (K2.res h) 2).1, (cell_of_block (K2.res h) 0).2, (cell_of_block (K2.res h) 1).2, (cell_of_block (K2.res h) 2).2⟩
theorem K2.boxc {w W : World} {a b c : Value} (h : K2 w #[a, b, c] W) : W.cell? ⟨w.heap.size, 0, none⟩ = some a ∧ W.cell? ⟨w.heap.size, 1, none⟩ = some b ∧ W.cell? ⟨w.heap.size, 2, none⟩ = some c :=
  ⟨(cell_of_block (K2.box h) 0).1, (cell_of_block (K2.box h) 1).1, (cell_of_block (K2.box h) 2).1⟩
theorem blk_set {w : World} {g i : Nat} {cs : Array Value} {t : TypeId} {u : Value} (h : w.heap[g]? = some (.cells cs t (0, 0))) : (w.setCell ⟨g, i, none⟩ u).heap[g]? = some (.cells (cs.setIfInBounds i u) t (0, 0)) := by
  simp [World.setCell, Array.getElem?_modify, h]
/-- A struct that is stored into the result's block. -/
abbrev put3 (W : World) (g : Nat) (a b c : Value) : World := ((W.setCell ⟨g, 0, none⟩ a).setCell ⟨g, 1, none⟩ b).setCell ⟨g, 2, none⟩ c
theorem put3_block {W : World} {g : Nat} {x y z a b c : Value} {t : TypeId} (h : W.heap[g]? = some (.cells #[x, y, z] t (0, 0))) : (put3 W g a b c).heap[g]? = some (.cells #[a, b, c] t (0, 0)) := blk_set (blk_set (blk_set h))
theorem put3_cells {W : World} {g : Nat} {x y z a b c : Value} {t : TypeId} (h : W.heap[g]? = some (.cells #[x, y, z] t (0, 0))) : (put3 W g a b c).cell? ⟨g, 0, none⟩ = some a ∧ (put3 W g a b c).cell? ⟨g, 1, none⟩ = some b ∧ (put3 W g a b c).cell? ⟨g, 2, none⟩ = some c :=
  ⟨(cell_of_block (put3_block h) 0).1, (cell_of_block (put3_block h) 1).1, (cell_of_block (put3_block h) 2).1⟩
theorem put3_below {w W : World} {B g : Nat} {a b c : Value} (h : Below B w W) (hg : B ≤ g) : Below B w (put3 W g a b c) := ((h.setCell (p := ⟨g, 0, none⟩) hg _).setCell (p := ⟨g, 1, none⟩) hg _).setCell (p := ⟨g, 2, none⟩) hg _
theorem BuiltT.setLow {w : World} {B : Nat} {va vn : Value} {A : List Bool} {N : List E} (h : BuiltT w B va vn A N) {a : Addr} (ha : a.block < B) (u : Value) : BuiltT (w.setCell a u) B va vn A N :=
  ⟨h.acc.setOther (fun e => by have := h.acc.ge e; omega) u, h.edg.setOther (fun e => by have := h.edg.ge e; omega) u, h.fits, h.short⟩
theorem BuiltT.put3 {w : World} {B g : Nat} {va vn a b c : Value} {A : List Bool} {N : List E} (h : BuiltT w B va vn A N) (hg : g < B) : BuiltT (TurnImpl.put3 w g a b c) B va vn A N :=
  BuiltT.setLow (BuiltT.setLow (BuiltT.setLow h (a := ⟨g, 0, none⟩) hg _) (a := ⟨g, 1, none⟩) hg _) (a := ⟨g, 2, none⟩) hg _
theorem fits_flip {es : List E} (h : ∀ i, i < es.length → (es.getD i noE).Fits) : ∀ i, i < (es.map flipE).length → ((es.map flipE).getD i noE).Fits := by
  intro i hi
  rw [List.length_map] at hi
  have h1 := h i hi
  have e : (es.map flipE).getD i noE = flipE (es.getD i noE) := by simp [List.getD, hi]
  rw [e]
  exact ⟨h1.2, h1.1⟩
theorem below_pushE {B : Nat} {w wq w1 : World} {v v' : Value} {es : List E} {x : E} (h : Below B w wq) (hl : LstE wq B v es) (hp : PushedE wq w1 B v v' es x) (hB : B ≤ wq.heap.size) : Below B w w1 :=
  below_grown h hp.grow hB (fun k hk => hl.ge hk)

set_option maxHeartbeats 4000000 in
theorem turned (v : Value) (t : T) (w : World) (B : Nat) (h : TrAt w B v t) (hB : B ≤ w.heap.size) (hok : okT t = true) :
    Calls Try.prog 48 #[v] w fun e w' => ∃ va vn, e = .returned (.agg #[.int .i64 t.start, va, vn]) ∧ BuiltT w' w.heap.size va vn t.accept (t.edges.map flipE) ∧ Below w.heap.size w w' := by
  obtain ⟨hn1, hn2, hq, -, -, -⟩ := ok_parts hok
  obtain ⟨va, vn, rfl, hacc, hed⟩ := h
  obtain ⟨ts, ta, te⟩ := t
  simp only at hn1 hn2 hq hacc hed ⊢
  have HFT := Lib.hid (show ∀ i, i < te.length → (te.getD i noE).Fits by obtain ⟨_, _, _, _, _, _, _, hc⟩ := hed; exact fun i hi => (hc i hi).2)
  have HAC := Lib.hid (fun W (hb : Below w.heap.size w W) => (show Bools W B va ta from hacc.below hb hB))
  obtain ⟨ab, bb, ob, cb, rfl, hmb, hbb, hcb⟩ := hed
  obtain ⟨q, hqq⟩ : ∃ q, q = te.length := ⟨_, rfl⟩
  rw [← hqq] at hmb hbb hcb hq
  have HQ := Lib.hid hqq
  have HC := Lib.hid hcb
  have HBB := Lib.hid hB
  obtain ⟨aa, ba, oa, ca, rfl, -, -, -⟩ := hacc
  obtain ⟨n, hnn⟩ : ∃ n, n = ta.length := ⟨_, rfl⟩
  rw [← hnn] at hn1 hn2 HAC
  have HN := Lib.hid hnn
  rw [← hnn, ← hqq]
  clear hqq hnn hcb hmb
  have hk2 : K2 w #[.int .i64 ts, .slice aa n ca, .slice ab q cb] ((w.alloc (.cells #[.int .i64 ts, .slice aa n ca, .slice ab q cb] 30)).alloc (.cells #[Value.int .i64 0, .slice none 0 0, .slice none 0 0] 30)) := Below.refl _ _
  have HK0 := Lib.hid hk2
  clear hk2
  go_enter Try.func48, Try.ntmps48
  go_wp2
  go_loopw [3, 9] (fun v i wr => ∃ k : Nat, k ≤ q ∧ i = .int .i64 k ∧ LstE wr (w.heap.size + 2) v ((te.take k).map flipE) ∧ K2 w #[.int .i64 ts, .slice aa n ca, .slice ab q cb] wr) (fun _ i _ => q - (intOf i).toNat)
  case atStart => exact ⟨0, Nat.zero_le _, rfl, LstE.nil _ _, HK0.out⟩
  case round =>
    obtain ⟨k, hk, rfl, hl, hk2⟩ := hrel
    obtain ⟨a0, n0, c0, rfl, HN0⟩ := hl.shape'
    have HL := Lib.hid hl
    have HK := Lib.hid hk2
    clear hl hk2 HK0
    by_cases hlt : k < q
    · obtain rfl := (hbb (by omega)).1
      have hbB := (hbb (by omega)).2
      have h4 := ((HC.out k hlt).1).below (K2.base HK.out) (by have := HBB.out; omega)
      obtain ⟨x, hx⟩ : ∃ x, x = te.getD k noE := ⟨_, rfl⟩
      rw [← hx] at h4
      have HX := Lib.hid (show (te.take (k + 1)).map flipE = (te.take k).map flipE ++ [flipE x] by rw [take_succ_getD te noE k (by rw [← HQ.out]; exact hlt), List.map_append, hx]; rfl)
      clear hbb hx
      obtain ⟨d0, d1, d2, d3⟩ := h4
      obtain ⟨xs, xd, xi, xo⟩ := x
      simp only at d0 d1 d2 d3
      have HK1 := Lib.hid (K2.step HK.out ((Below.refl _ _).alloc (Nat.le_refl _) (boxE ⟨xs, xd, xi, xo⟩)))
      have HL1 := Lib.hid (LstE.alloc HL.out (boxE ⟨xs, xd, xi, xo⟩))
      have HLEN := Lib.hid (show ((te.take k).map flipE).length ≤ 100000000 by rw [List.length_map, List.length_take]; omega)
      go_wp2_with (at_builtin; refine wpList_pushE rfl _ _ rfl (w.heap.size + 2) (.slice a0 n0 c0) _ (⟨xs, xd, xo, xi⟩ : E) HL1.out (K2.size HK1.out) HLEN.out rfl (wr.heap.size + 1) rfl (size_alloc' _ _) ?_; intro v5 w5 hp5; obtain ⟨a5, n5, c5, rfl, HN5⟩ := hp5.lst.shape'; have HL5 := Lib.hid hp5.lst; have HK5 := Lib.hid (below_pushE HK1.out HL1.out hp5 (K2.size HK1.out)); clear hp5)
      go_roundw
      case rel => exact ⟨k + 1, by omega, by go_num, by rw [HX.out]; exact HL5.out, HK5.out⟩
      case measure => simp [intOf]; omega
    · obtain rfl : k = q := by omega
      have HLL := Lib.hid (show LstE wr (w.heap.size + 2) (.slice a0 n0 c0) (te.map flipE) by have := HL.out; rwa [List.take_of_length_le (by rw [← HQ.out]; exact Nat.le_refl _)] at this)
      have hbx := K2.box HK.out
      obtain ⟨x0, -⟩ := cell_of_block hbx 0
      obtain ⟨x1, -⟩ := cell_of_block hbx 1
      simp only [List.getElem?_toArray, List.getElem?_cons_zero, List.getElem?_cons_succ] at x0 x1
      have hlw : w.heap.size < wr.heap.size := by have := K2.size HK.out; omega
      have HCL := Lib.hid (fun W (hb : Below w.heap.size w W) (hs : B ≤ W.heap.size) => cloneB ta (.slice aa n ca) W B (HAC.out W hb) hs (by rw [← HN.out]; omega) (by rw [← HN.out]; omega))
      clear hbb hbx HL
      go_wp2_with fail
      go_region_with (go_at_call 78; refine (HCL.out _ (K2.base HK.out).drew (by have := HBB.out; have := K2.size HK.out; simp; omega)).mono ?_; rintro e w1 ⟨a7, c7, rfl, hl7, hb⟩; have HL7 := Lib.hid hl7; have HK7 := Lib.hid (K2.step HK.out ((((Below.refl _ _).drew)).trans hb)); have HE7 := Lib.hid (LstE.below HLL.out ((((Below.refl _ _).drew)).trans hb)); obtain ⟨r0, r1, r2, s0, s1, s2⟩ := K2.cells HK7.out; obtain ⟨y0, y1, y2⟩ := K2.boxc HK7.out; have hlw7 : w.heap.size + 1 < w1.heap.size := (by have := K2.size HK7.out; omega); clear hl7 hb)
      all_goals
        go_wp2
        obtain ⟨g0, g1, g2⟩ := put3_cells (a := .int .i64 ts) (b := .slice a7 ta.length c7) (c := .slice a0 n0 c0) (K2.res HK7.out)
        refine bodyPost_ret (v := .agg #[.int .i64 ts, .slice a7 ta.length c7, .slice a0 n0 c0]) (by simp [results, Try.results48, go_sem, g0, g1, g2]) rfl ⟨.slice a7 ta.length c7, .slice a0 n0 c0, rfl, ?_, ?_⟩
        · refine BuiltT.mono (B := w.heap.size + 2) (BuiltT.put3 ⟨HL7.out.mono (by have := K2.size HK.out; simp; omega), HE7.out, fits_flip HFT.out, by rw [List.length_map, ← HQ.out]; omega⟩ (by omega)) (by omega)
        · exact put3_below (K2.base HK7.out) (by omega)
end Go.Proofs.Ytjoiaenkmmmmpaa.TurnImpl
