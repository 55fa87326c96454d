
/- The law's copies of edges and transducers.
   Conditions: stated at each theorem. -/
import Derived.Test.YtjoiaenkmmmmpaaEdg
import Derived.Test.YtjoiaenkmmmmpaaMarkRow
namespace Go.Proofs.Ytjoiaenkmmmmpaa.EdgCopy
set_option linter.unusedVariables false
set_option linter.unusedSimpArgs false
open Go.RowKit Mem Copy Rel Edg

/-- The cells of an edge, and of a row of edges. -/
def cellOf (e : E) (j : Nat) : Value :=
  if j = 0 then .int .i64 e.src else if j = 1 then .int .i64 e.dst else if j = 2 then .string e.inn else .string e.out
def edgeF (es : List E) (i : Nat) : Value := cellOf (es.getD (i / 4) noE) (i % 4)
def zeroF (i : Nat) : Value := cellOf noE (i % 4)

abbrev zeroCells : Array Value := #[.int .i64 0, .int .i64 0, .string ⟨#[]⟩, .string ⟨#[]⟩]
theorem edgeF_at (es : List E) (k j : Nat) (hj : j < 4) : edgeF es (k * 4 + j) = cellOf (es.getD k noE) j := by
  unfold edgeF
  rw [show (k * 4 + j) / 4 = k by omega, show (k * 4 + j) % 4 = j by omega]
theorem rowIs_set4 {w : World} {b n : Nat} {t : TypeId} {f : Nat → Value} (h : w.rowIs b t n f) (k : Nat) (v0 v1 v2 v3 : Value) :
    ((((w.setCell ⟨b, k * 4, none⟩ v0).setCell ⟨b, k * 4 + 1, none⟩ v1).setCell ⟨b, k * 4 + 2, none⟩ v2).setCell ⟨b, k * 4 + 3, none⟩ v3).rowIs b t n
      (fun j => if j = k * 4 + 3 then v3 else if j = k * 4 + 2 then v2 else if j = k * 4 + 1 then v1 else if j = k * 4 then v0 else f j) :=
  (((h.set _ _).set _ _).set _ _).set _ _
theorem step4 (es : List E) (k : Nat) (x : E) (hx : x = es.getD k noE) (g : Nat → Value) (j : Nat) :
    (if j = k * 4 + 3 then Value.string x.out else if j = k * 4 + 2 then Value.string x.inn else if j = k * 4 + 1 then Value.int .i64 x.dst else if j = k * 4 then Value.int .i64 x.src else if j < k * 4 then edgeF es j else g j) = if j < (k + 1) * 4 then edgeF es j else g j := by
  by_cases h3 : j = k * 4 + 3
  · subst h3; rw [if_pos rfl, if_pos (by omega), edgeF_at _ _ _ (by omega), ← hx]; rfl
  · rw [if_neg h3]
    by_cases h2 : j = k * 4 + 2
    · subst h2; rw [if_pos rfl, if_pos (by omega), edgeF_at _ _ _ (by omega), ← hx]; rfl
    · rw [if_neg h2]
      by_cases h1 : j = k * 4 + 1
      · subst h1; rw [if_pos rfl, if_pos (by omega), edgeF_at _ _ _ (by omega), ← hx]; rfl
      · rw [if_neg h1]
        by_cases h0 : j = k * 4
        · subst h0; rw [if_pos rfl, if_pos (by omega)]; have := edgeF_at es k 0 (by omega); rw [Nat.add_zero] at this; rw [this, ← hx]; rfl
        · rw [if_neg h0]
          by_cases hl : j < k * 4
          · rw [if_pos hl, if_pos (by omega)]
          · rw [if_neg hl, if_neg (by omega)]

theorem infoE : (Try.prog.info? 50).map (fun i => (i.zero, i.size, i.bytes)) = some (some (edgeV noE), 4, 48) := by kernel_rfl

theorem run_make_edges (n : Nat) (hn : n ≤ 1048576) (w : World) :
    (Instr.makeSlice 28 (.int .i64 (n : Int)) (.int .i64 (n : Int))).run Try.prog w = .ok (.slice (some ⟨w.heap.size, 0, none⟩) n n) (w.alloc (.cells (madeCells zeroCells (n * 4)) 50)) := by
  obtain ⟨i, hi, hz, hs, hb⟩ := info_parts infoE
  have h := run_make (P := Try.prog) w 28 50 i (edgeV noE) Try.underlying28 hi hz .i64 .i64 (n : Int) (n : Int) (by omega) (by omega) (by rw [hb]; omega) (by omega)
  rw [Int.toNat_natCast, hs] at h
  exact h
theorem made_row (w : World) (n : Nat) : (w.alloc (.cells (madeCells zeroCells (n * 4)) 50)).rowIs w.heap.size 50 (n * 4) zeroF := by
  refine ⟨_, Go.Deep.blk_alloc_new _ _, size_madeCells _ _, fun i hi => ?_⟩
  have hm : i % 4 < 4 := Nat.mod_lt _ (by decide)
  have e : (madeCells zeroCells (n * 4))[i]? = some (zeroCells[i % 4]'(hm)) := by
    simp [madeCells, hi]
    rw [List.getElem?_eq_getElem (by simpa using hm)]; rfl
  rw [e]
  unfold zeroF
  generalize i % 4 = j at hm ⊢
  match j, hm with
  | 0, _ => rfl
  | 1, _ => rfl
  | 2, _ => rfl
  | 3, _ => rfl

set_option maxHeartbeats 400000 in
theorem toEdge (x : E) (w : World) :
    Calls Try.prog 75 #[edgeV x] w fun e w' => e = .returned (edgeV x) ∧ Below w.heap.size w w' ∧ w'.heap.size = w.heap.size + 3 := by
  obtain ⟨xs, xd, xi, xo⟩ := x
  unfold edgeV
  go_enter Try.func75, Try.ntmps75
  go_wp2
  refine bodyPost_ret (v := edgeV ⟨xs, xd, xi, xo⟩) (by simp [results, Try.results75, go_sem, edgeV]) rfl ⟨rfl, ?_, ?_⟩
  · exact ((((Below.refl _ _).alloc (Nat.le_refl _) _).alloc (by simp) _).alloc (by simp; omega) _)
  · simp

set_option maxHeartbeats 1000000 in
theorem toEdges (es : List E) (va : Value) (w : World) (B : Nat) (ha : Edges w B va es) (hB : B ≤ w.heap.size) (hx : es.length ≤ 1048576) :
    Calls Try.prog 39 #[va] w fun e w' => e = .returned (.slice (some ⟨w.heap.size, 0, none⟩) es.length es.length) ∧
      w'.rowIs w.heap.size 50 (es.length * 4) (edgeF es) ∧ Below w.heap.size w w' ∧ w'.heap.size = w.heap.size + 1 + 3 * es.length := by
  obtain ⟨a, b, off, cap, rfl, hma, haa, hca⟩ := ha
  obtain ⟨n, hn⟩ : ∃ n, n = es.length := ⟨_, rfl⟩
  rw [← hn] at hma hca haa hx
  rw [← hn]
  clear hma
  have HN := Lib.hid hn
  clear hn
  have HC := Lib.hid hca
  have HBB := Lib.hid hB
  clear hca hB
  have hmk := run_make_edges n (by omega)
  go_enter Try.func39, Try.ntmps39
  go_wp2
  go_loopw [4] (fun i wr => ∃ k : Nat, k ≤ n ∧ i = .int .i64 k ∧ wr.rowIs w.heap.size 50 (n * 4) (fun j => if j < k * 4 then edgeF es j else zeroF j) ∧ Below w.heap.size w wr ∧ wr.heap.size = w.heap.size + 1 + 3 * k) (fun i _ => n - (intOf i).toNat)
  case atStart =>
    exact ⟨0, Nat.zero_le _, rfl, (made_row w n).congr fun i hi => by simp, (Below.refl _ _).alloc (Nat.le_refl _) _, by simp⟩
  case round =>
    obtain ⟨k, hk, rfl, hrow, hbel, hsz⟩ := hrel
    have HR := Lib.hid hrow
    have HBL := Lib.hid hbel
    have HS := Lib.hid hsz
    clear hrow hbel hsz hmk
    by_cases hlt : k < n
    · obtain rfl := (haa (by omega)).1
      have hbB := (haa (by omega)).2
      have h4 := ((HC.out k hlt).1).below HBL.out (by have := HBB.out; omega)
      obtain ⟨x, hx⟩ : ∃ x, x = es.getD k noE := ⟨_, rfl⟩
      rw [← hx] at h4
      have HX := Lib.hid hx
      have HT := Lib.hid (fun W => toEdge x W)
      obtain ⟨c0, c1, c2, c3⟩ := h4
      obtain ⟨xs, xd, xi, xo⟩ := x
      unfold edgeV at HT
      simp only at c0 c1 c2 c3 HT
      clear haa hx
      go_wp2_with fail
      refine (HT.out _).mono ?_
      rintro e w1 ⟨rfl, hb, hs⟩
      have H1 := Lib.hid hb
      have H2 := Lib.hid hs
      have hN : w.heap.size < wr.heap.size := by have := HS.out; omega
      have HR1 := Lib.hid (rowIs_below HR.out hb hN)
      have f0 := HR1.out.frozen (k * 4)
      have f1 := HR1.out.frozen (k * 4 + 1)
      have f2 := HR1.out.frozen (k * 4 + 2)
      have f3 := HR1.out.frozen (k * 4 + 3)
      have d0 : w1.cell? ⟨w.heap.size, k * 4, none⟩ = some (.int .i64 0) := by rw [HR1.out.cell (by omega), if_neg (by omega)]; simp [zeroF, cellOf, noE]
      have d1 : w1.cell? ⟨w.heap.size, k * 4 + 1, none⟩ = some (.int .i64 0) := by rw [HR1.out.cell (by omega), if_neg (by omega)]; simp [zeroF, cellOf, noE, show (k * 4 + 1) % 4 = 1 by omega]
      have d2 : w1.cell? ⟨w.heap.size, k * 4 + 2, none⟩ = some (.string ⟨#[]⟩) := by rw [HR1.out.cell (by omega), if_neg (by omega)]; simp [zeroF, cellOf, noE, show (k * 4 + 2) % 4 = 2 by omega]
      have d3 : w1.cell? ⟨w.heap.size, k * 4 + 3, none⟩ = some (.string ⟨#[]⟩) := by rw [HR1.out.cell (by omega), if_neg (by omega)]; simp [zeroF, cellOf, noE, show (k * 4 + 3) % 4 = 3 by omega]
      clear hb hs c0 c1 c2 c3 HR
      go_wp2
      go_roundw
      case rel =>
        have e1 := HS.out
        have e2 := H2.out
        refine ⟨k + 1, by omega, by go_num, (rowIs_set4 HR1.out k _ _ _ _).congr fun j hj => step4 es k ⟨xs, xd, xi, xo⟩ HX.out zeroF j, ((((HBL.out.trans (H1.out.mono (by omega))).setCell (Nat.le_refl _) _).setCell (Nat.le_refl _) _).setCell (Nat.le_refl _) _).setCell (Nat.le_refl _) _, ?_⟩
        simp only [World.setCell, Array.size_modify]
        omega
      case measure => simp [intOf]; omega
    · have HRR := Lib.hid (HR.out.congr (g := edgeF es) fun i hi => by rw [if_pos (by omega)])
      have HK := Lib.hid (show k = n by omega)
      clear HR
      go_wp2
      go_ret
      exact ⟨rfl, HRR.out, HBL.out, by have := HK.out; have := HS.out; omega⟩

/-- The copy of a transducer. -/
abbrev freshT (M : Nat) (t : T) : Value := .agg #[.int .i64 t.start, .slice (some ⟨M, 0, none⟩) t.accept.length t.accept.length, .slice (some ⟨M + 1, 0, none⟩) t.edges.length t.edges.length]
structure FreshT (w : World) (M : Nat) (t : T) : Prop where
  accept : w.rowIs M 4 t.accept.length (fun i => .bool (t.accept.getD i false))
  edges : w.rowIs (M + 1) 50 (t.edges.length * 4) (edgeF t.edges)
  short : t.accept.length ≤ 1048576 ∧ t.edges.length ≤ 1048576
  fits : ∀ i, i < t.edges.length → (t.edges.getD i noE).Fits
theorem FreshT.below {w w' : World} {M B : Nat} {t : T} (h : FreshT w M t) (hb : Below B w w') (hB : M + 2 ≤ B) : FreshT w' M t :=
  ⟨rowIs_below h.accept hb (by omega), rowIs_below h.edges hb (by omega), h.short, h.fits⟩
theorem edges_of_row {w : World} {M : Nat} {es : List E} (h : w.rowIs M 50 (es.length * 4) (edgeF es)) (hs : es.length ≤ 1048576) (hf : ∀ i, i < es.length → (es.getD i noE).Fits) (B : Nat) (hB : M < B) : Edges w B (.slice (some ⟨M, 0, none⟩) es.length es.length) es := by
  refine ⟨_, M, 0, _, rfl, by unfold maxLen; omega, fun _ => ⟨rfl, hB⟩, fun i hi => ⟨⟨?_, ?_, ?_, ?_⟩, hf i hi⟩⟩
  · have := edgeF_at es i 0 (by omega); rw [Nat.zero_add, h.cell (by omega)]; rw [Nat.add_zero] at this; rw [this]; rfl
  · rw [Nat.zero_add, h.cell (by omega), edgeF_at es i 1 (by omega)]; rfl
  · rw [Nat.zero_add, h.cell (by omega), edgeF_at es i 2 (by omega)]; rfl
  · rw [Nat.zero_add, h.cell (by omega), edgeF_at es i 3 (by omega)]; rfl
theorem FreshT.reads {w : World} {M B : Nat} {t : T} (h : FreshT w M t) (hB : M + 2 ≤ B) : TrAt w B (freshT M t) t :=
  ⟨_, _, rfl, Sl.of_row h.accept B (by omega) (by have := h.short.1; unfold maxLen; omega), edges_of_row h.edges h.short.2 h.fits B (by omega)⟩

theorem toEdges_at (N : Nat) (es : List E) (va : Value) (w : World) (B : Nat) (hN : w.heap.size = N) (ha : Edges w B va es) (hB : B ≤ w.heap.size) (hx : es.length ≤ 1048576) :
    Calls Try.prog 39 #[va] w fun e w' => e = .returned (.slice (some ⟨N, 0, none⟩) es.length es.length) ∧
      w'.rowIs N 50 (es.length * 4) (edgeF es) ∧ Below N w w' ∧ w'.heap.size = N + 1 + 3 * es.length := by
  subst hN; exact toEdges es va w B ha hB hx

set_option maxHeartbeats 1000000 in
theorem toTransducer (v : Value) (t : T) (w : World) (B : Nat) (hr : TrAt w B v t) (hB : B ≤ w.heap.size) (hs : t.accept.length ≤ 1048576 ∧ t.edges.length ≤ 1048576) :
    Calls Try.prog 14 #[v] w fun e w' => e = .returned (freshT (w.heap.size + 3) t) ∧ FreshT w' (w.heap.size + 3) t ∧ Below w.heap.size w w' ∧ w.heap.size + 5 ≤ w'.heap.size := by
  obtain ⟨va, vn, rfl, hacc, hnext⟩ := hr
  have HFT := Lib.hid (show ∀ i, i < t.edges.length → (t.edges.getD i noE).Fits by obtain ⟨_, _, _, _, _, _, _, hc⟩ := hnext; exact fun i hi => (hc i hi).2)
  have H1 := Lib.hid (fun W (h : Below w.heap.size w W) => hacc.below h hB)
  have H2 := Lib.hid (fun W (h : Below w.heap.size w W) => hnext.below h hB)
  have HS := Lib.hid hs
  have HB := Lib.hid hB
  clear hacc hnext hs hB
  obtain ⟨ts, ta, tn⟩ := t
  simp only at H1 H2 HS HFT ⊢
  go_enter Try.func14, Try.ntmps14
  go_wp2_with fail
  refine (copyBools_at (w.heap.size + 3) ta va _ B (by simp) (H1.out _ (by repeat (first | exact Below.refl _ _ | refine below_drewN ?_ _ | refine Below.alloc ?_ (by simp; try omega) _))) (by have := HB.out; omega) HS.out.1).mono ?_
  rintro e w1 ⟨rfl, hr1, hb1, hs1⟩
  obtain ⟨hc, hf⟩ := bcell hb1
  have R1 := Lib.hid hr1
  have B1 := Lib.hid hb1
  have S1 := Lib.hid hs1
  have BW : Below w.heap.size w w1 := Below.trans (by repeat (first | exact Below.refl _ _ | refine below_drewN ?_ _ | refine Below.alloc ?_ (by simp; try omega) _)) (hb1.mono (by omega))
  clear hr1 hb1 hs1
  have HBW := Lib.hid BW
  clear BW
  go_wp2_with fail
  refine (toEdges_at (w.heap.size + 4) tn vn _ B (by simp [World.setCell, S1.out]) (H2.out _ (HBW.out.setCell (by show w.heap.size ≤ w.heap.size + 1 + 1; omega) _)) (by have h1 := HB.out; have h2 := S1.out; simp only [World.setCell, Array.size_modify]; omega) HS.out.2).mono ?_
  rintro e w3 ⟨rfl, hr3, hb3, hs3⟩
  obtain ⟨hc3, hf3⟩ := bcell hb3
  have R3 := Lib.hid hr3
  have B3 := Lib.hid hb3
  have S3 := Lib.hid hs3
  clear hr3 hb3 hs3
  have F := Lib.hid (R1.out.setOther (a := ⟨w.heap.size + 1 + 1, 1, none⟩) (by show _ ≠ w.heap.size + 1 + 1; omega) (.slice (some ⟨w.heap.size + 3, 0, none⟩) ta.length ta.length))
  have BW3 := Lib.hid ((HBW.out.setCell (p := ⟨w.heap.size + 1 + 1, 1, none⟩) (by show w.heap.size ≤ w.heap.size + 1 + 1; omega) (.slice (some ⟨w.heap.size + 3, 0, none⟩) ta.length ta.length)).trans (B3.out.mono (by omega)))
  have F3 := Lib.hid (rowIs_below F.out B3.out (by omega))
  go_wp2
  refine bodyPost_ret (v := freshT (w.heap.size + 3) ⟨ts, ta, tn⟩) (by simp [results, Try.results14, go_sem, hc, hc3, freshT]) rfl ⟨rfl, ⟨?_, ?_, HS.out, HFT.out⟩, ?_, ?_⟩
  · refine World.rowIs.setOther (World.rowIs.setOther (World.rowIs.setOther (World.rowIs.setOther F3.out ?_ _) ?_ _) ?_ _) ?_ _
    all_goals (first | (show _ ≠ w.heap.size + 1; omega) | (show _ ≠ w.heap.size + 1 + 1; omega))
  · refine World.rowIs.setOther (World.rowIs.setOther (World.rowIs.setOther (World.rowIs.setOther R3.out ?_ _) ?_ _) ?_ _) ?_ _
    all_goals (first | (show _ ≠ w.heap.size + 1; omega) | (show _ ≠ w.heap.size + 1 + 1; omega))
  · refine Below.setCell (Below.setCell (Below.setCell (Below.setCell BW3.out ?_ _) ?_ _) ?_ _) ?_ _
    all_goals (first | (show w.heap.size ≤ w.heap.size + 1; omega) | (show w.heap.size ≤ w.heap.size + 1 + 1; omega))
  · have := S3.out
    simp only [World.setCell, Array.size_modify]
    omega

/-- The bound that the laws set. -/
def ShortT (t : T) : Prop := t.accept.length ≤ 1048576 ∧ t.edges.length ≤ 1048576
theorem shortT_of {left : Int} {t : T} (hl : left ≤ 1048576) (h : 0 ≤ szTr left t) : ShortT t := by
  unfold szTr at h
  by_cases h1 : left < (t.accept.length : Int)
  · rw [if_pos h1] at h; omega
  · rw [if_neg h1] at h
    unfold szEs at h
    by_cases h2 : left - t.accept.length < (t.edges.length : Int)
    · rw [if_pos h2] at h; omega
    · exact ⟨by omega, by omega⟩

/-- A copy that the law owns. -/
structure OwnT (W : World) (M : Nat) (t : T) : Prop where
  fresh : FreshT W M t
  top : M + 2 ≤ W.heap.size
theorem OwnT.step {W W' : World} {M : Nat} {t : T} (h : OwnT W M t) (hb : Below W.heap.size W W') : OwnT W' M t :=
  ⟨h.fresh.below hb h.top, Nat.le_trans h.top hb.size⟩
theorem OwnT.drew {W : World} {M : Nat} {t : T} (h : OwnT W M t) : OwnT W.drew M t := h.step ((Below.refl _ _).drew)
theorem OwnT.box {W : World} {M : Nat} {t : T} (h : OwnT W M t) (o : Obj) : OwnT (W.alloc o) M t := h.step ((Below.refl _ _).alloc (Nat.le_refl _) _)
theorem OwnT.reads {W : World} {M : Nat} {t : T} (h : OwnT W M t) : TrAt W W.heap.size (freshT M t) t := h.fresh.reads h.top
theorem copyTr (v : Value) (t : T) (W : World) (B : Nat) (hr : TrAt W B v t) (hB : B ≤ W.heap.size) (hs : ShortT t) :
    Calls Try.prog 14 #[v] W fun e w' => ∃ M, e = .returned (freshT M t) ∧ OwnT w' M t ∧ Below W.heap.size W w' ∧ W.heap.size ≤ M :=
  (toTransducer v t W B hr hB hs).mono fun _ _ ⟨he, hf, hb, hz⟩ => ⟨_, he, ⟨hf, by omega⟩, hb, by omega⟩

/-- Three cells of a block that is there. -/
structure Kept3 (W : World) (b : Nat) (x0 x1 x2 : Value) : Prop where
  c0 : W.cell? ⟨b, 0, none⟩ = some x0
  c1 : W.cell? ⟨b, 1, none⟩ = some x1
  c2 : W.cell? ⟨b, 2, none⟩ = some x2
  lt : b < W.heap.size
theorem Kept3.low {W W' : World} {b B : Nat} {x0 x1 x2 : Value} (h : Kept3 W b x0 x1 x2) (hb : Below B W W') (hB : b < B) (hs : b < W'.heap.size) : Kept3 W' b x0 x1 x2 :=
  ⟨(hb.cell (p := ⟨b, 0, none⟩) hB).trans h.c0, (hb.cell (p := ⟨b, 1, none⟩) hB).trans h.c1, (hb.cell (p := ⟨b, 2, none⟩) hB).trans h.c2, hs⟩
theorem Kept3.step {W W' : World} {b : Nat} {x0 x1 x2 : Value} (h : Kept3 W b x0 x1 x2) (hb : Below W.heap.size W W') : Kept3 W' b x0 x1 x2 :=
  h.low hb h.lt (Nat.lt_of_lt_of_le h.lt hb.size)
theorem Kept3.drew {W : World} {b : Nat} {x0 x1 x2 : Value} (h : Kept3 W b x0 x1 x2) : Kept3 W.drew b x0 x1 x2 := ⟨h.c0, h.c1, h.c2, h.lt⟩
theorem Kept3.box {W : World} {b : Nat} {x0 x1 x2 : Value} (h : Kept3 W b x0 x1 x2) (o : Obj) : Kept3 (W.alloc o) b x0 x1 x2 := h.step ((Below.refl _ _).alloc (Nat.le_refl _) _)
theorem Kept3.new (W : World) (x0 x1 x2 : Value) (t : TypeId) : Kept3 (W.alloc (.cells #[x0, x1, x2] t)) W.heap.size x0 x1 x2 :=
  ⟨World.cell?_alloc_mark .., World.cell?_alloc_mark .., World.cell?_alloc_mark .., by simp⟩
end Go.Proofs.Ytjoiaenkmmmmpaa.EdgCopy
