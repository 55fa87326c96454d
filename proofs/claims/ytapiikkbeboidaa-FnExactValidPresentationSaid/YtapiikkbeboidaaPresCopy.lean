
/- The law's copies of presentations.
   Conditions: stated at each theorem. -/
import Derived.Test.YtapiikkbeboidaaPres
namespace Go.Proofs.Ytapiikkbeboidaa.PresCopy
set_option linter.unusedVariables false
set_option linter.unusedSimpArgs false
set_option maxRecDepth 20000
open Go.RowKit Mem Copy Rel Equal ValidAt Pres

/-- The cells of a copied relation, and of a row of them. -/
def cellR (M : Nat) (r : R) (j : Nat) : Value :=
  if j = 0 then .int .i64 r.tapes else if j = 1 then .int .i64 r.start else if j = 2 then .slice (some ⟨M, 0, none⟩) r.accept.length r.accept.length else .slice (some ⟨M + 1, 0, none⟩) r.next.length r.next.length
def relF (Ms : Nat → Nat) (rs : List R) (i : Nat) : Value := cellR (Ms (i / 4)) (rs.getD (i / 4) noR) (i % 4)
abbrev zeroCells : Array Value := #[.int .i64 0, .int .i64 0, .slice none 0 0, .slice none 0 0]
def zeroF (i : Nat) : Value := if i % 4 < 2 then .int .i64 0 else .slice none 0 0

theorem relF_at (Ms : Nat → Nat) (rs : List R) (k j : Nat) (hj : j < 4) : relF Ms rs (k * 4 + j) = cellR (Ms k) (rs.getD k noR) j := by
  unfold relF
  rw [show (k * 4 + j) / 4 = k by omega, show (k * 4 + j) % 4 = j by omega]
theorem rowIs_set4 {w : World} {b n : Nat} {t : TypeId} {f : Nat → Value} (h : w.rowIs b t n f) (k : Nat) (v0 v1 v2 v3 : Value) :
    ((((w.setCell ⟨b, k * 4, none⟩ v0).setCell ⟨b, k * 4 + 1, none⟩ v1).setCell ⟨b, k * 4 + 2, none⟩ v2).setCell ⟨b, k * 4 + 3, none⟩ v3).rowIs b t n
      (fun j => if j = k * 4 + 3 then v3 else if j = k * 4 + 2 then v2 else if j = k * 4 + 1 then v1 else if j = k * 4 then v0 else f j) :=
  (((h.set _ _).set _ _).set _ _).set _ _
theorem step4 (Ms : Nat → Nat) (rs : List R) (k M : Nat) (x : R) (hx : x = rs.getD k noR) (g : Nat → Value) (j : Nat) :
    (if j = k * 4 + 3 then Value.slice (some ⟨M + 1, 0, none⟩) x.next.length x.next.length else if j = k * 4 + 2 then Value.slice (some ⟨M, 0, none⟩) x.accept.length x.accept.length else if j = k * 4 + 1 then Value.int .i64 x.start else if j = k * 4 then Value.int .i64 x.tapes else if j < k * 4 then relF Ms rs j else g j) =
      if j < (k + 1) * 4 then relF (fun i => if i = k then M else Ms i) rs j else g j := by
  by_cases h3 : j = k * 4 + 3
  · subst h3; rw [if_pos rfl, if_pos (by omega), relF_at _ _ _ _ (by omega), ← hx]; simp [cellR]
  · rw [if_neg h3]
    by_cases h2 : j = k * 4 + 2
    · subst h2; rw [if_pos rfl, if_pos (by omega), relF_at _ _ _ _ (by omega), ← hx]; simp [cellR]
    · rw [if_neg h2]
      by_cases h1 : j = k * 4 + 1
      · subst h1; rw [if_pos rfl, if_pos (by omega), relF_at _ _ _ _ (by omega), ← hx]; simp [cellR]
      · rw [if_neg h1]
        by_cases h0 : j = k * 4
        · subst h0; rw [if_pos rfl, if_pos (by omega)]; have := relF_at (fun i => if i = k then M else Ms i) rs k 0 (by omega); rw [Nat.add_zero] at this; rw [this, ← hx]; simp [cellR]
        · rw [if_neg h0]
          by_cases hl : j < k * 4
          · rw [if_pos hl, if_pos (by omega)]
            unfold relF
            have : ¬ j / 4 = k := by omega
            simp only [if_neg this]
          · rw [if_neg hl, if_neg (by omega)]

theorem infoR : (Try.prog.info? 31).map (fun i => (i.zero, i.size, i.bytes)) = some (some (.agg zeroCells), 4, 64) := by kernel_rfl
theorem run_make_rels (n : Nat) (hn : n ≤ 1048576) (w : World) :
    (Instr.makeSlice 32 (.int .i64 (n : Int)) (.int .i64 (n : Int))).run Try.prog w = .ok (.slice (some ⟨w.heap.size, 0, none⟩) n n) (w.alloc (.cells (madeCells zeroCells (n * 4)) 31)) := by
  obtain ⟨i, hi, hz, hs, hb⟩ := info_parts infoR
  have h := run_make (P := Try.prog) w 32 31 i (.agg zeroCells) Try.underlying32 hi hz .i64 .i64 (n : Int) (n : Int) (by omega) (by omega) (by rw [hb]; omega) (by omega)
  rw [Int.toNat_natCast, hs] at h
  exact h
theorem made_row (w : World) (n : Nat) : (w.alloc (.cells (madeCells zeroCells (n * 4)) 31)).rowIs w.heap.size 31 (n * 4) zeroF := by
  refine ⟨_, Go.Deep.blk_alloc_new _ _, size_madeCells _ _, fun i hi => ?_⟩
  have hm : i % 4 < 4 := Nat.mod_lt _ (by decide)
  have e : (madeCells zeroCells (n * 4))[i]? = some (zeroCells[i % 4]'(hm)) := by
    simp [madeCells, hi]
    rw [List.getElem?_eq_getElem (by simpa using hm)]; rfl
  rw [e]
  unfold zeroF
  generalize i % 4 = j at hm ⊢
  match j, hm with
  | 0, _ => rfl
  | 1, _ => rfl
  | 2, _ => rfl
  | 3, _ => rfl

theorem Own.setAway {w : World} {M : Nat} {r : R} (h : Own w M r) {a : Addr} (ha : a.block < M) (u : Value) : Own (w.setCell a u) M r :=
  ⟨⟨h.fresh.accept.setOther (by omega) u, OwnRows.setAway h.fresh.next (by omega) u, h.fresh.short⟩, by simpa [World.setCell] using h.top⟩
theorem Own.set4 {w : World} {M b k : Nat} {r : R} (h : Own w M r) (hb : b < M) (v0 v1 v2 v3 : Value) : Own ((((w.setCell ⟨b, k * 4, none⟩ v0).setCell ⟨b, k * 4 + 1, none⟩ v1).setCell ⟨b, k * 4 + 2, none⟩ v2).setCell ⟨b, k * 4 + 3, none⟩ v3) M r :=
  Own.setAway (Own.setAway (Own.setAway (Own.setAway h (a := ⟨b, k * 4, none⟩) hb _) (a := ⟨b, k * 4 + 1, none⟩) hb _) (a := ⟨b, k * 4 + 2, none⟩) hb _) (a := ⟨b, k * 4 + 3, none⟩) hb _

/-- Copied relations: their row in the block G, and their lists behind it. -/
structure OwnRs (w : World) (G : Nat) (Ms : Nat → Nat) (rs : List R) : Prop where
  row : w.rowIs G 31 (rs.length * 4) (relF Ms rs)
  own : ∀ i, i < rs.length → Own w (Ms i) (rs.getD i noR) ∧ G < Ms i
  len : rs.length ≤ 1048576
theorem OwnRs.step {w w' : World} {G : Nat} {Ms : Nat → Nat} {rs : List R} (h : OwnRs w G Ms rs) (hb : Below w.heap.size w w') : OwnRs w' G Ms rs :=
  ⟨rowIs_below h.row hb h.row.lt, fun i hi => ⟨(h.own i hi).1.step hb, (h.own i hi).2⟩, h.len⟩
theorem OwnRs.reads {w : World} {G : Nat} {Ms : Nat → Nat} {rs : List R} (h : OwnRs w G Ms rs) (B : Nat) (hB : w.heap.size ≤ B) : Rels w B (.slice (some ⟨G, 0, none⟩) rs.length rs.length) rs := by
  have hlt := h.row.lt
  refine ⟨_, G, 0, _, rfl, by have := h.len; unfold maxLen; omega, fun _ => ⟨rfl, by omega⟩, fun i hi => ?_⟩
  obtain ⟨va, vn, e, ha, hn⟩ := (h.own i hi).1.reads
  injection e with e
  simp at e
  obtain ⟨rfl, rfl⟩ := e
  refine ⟨_, _, ?_, ?_, ?_, ?_, ha.mono hB, hn.mono hB⟩
  · have := relF_at Ms rs i 0 (by omega); rw [Nat.add_zero] at this; rw [Nat.zero_add, h.row.cell (by omega), this]; simp [cellR]
  · rw [Nat.zero_add, h.row.cell (by omega), relF_at Ms rs i 1 (by omega)]; simp [cellR]
  · rw [Nat.zero_add, h.row.cell (by omega), relF_at Ms rs i 2 (by omega)]; simp [cellR]
  · rw [Nat.zero_add, h.row.cell (by omega), relF_at Ms rs i 3 (by omega)]; simp [cellR]

theorem copyOwnM (v : Value) (r : R) (W : World) (B : Nat) (hr : RelAt W B v r) (hB : B ≤ W.heap.size) (hs : Short r) :
    Calls Try.prog 15 #[v] W fun e w' => ∃ M, e = .returned (freshV M r) ∧ Own w' M r ∧ Below W.heap.size W w' ∧ W.heap.size ≤ M :=
  (copyRel v r W B hr hB hs).mono fun _ _ ⟨M, he, h1, h2, hf, hb⟩ => ⟨M, he, ⟨hf, h2⟩, hb, h1⟩

set_option maxHeartbeats 1000000 in
theorem toRelations (rs : List R) (va : Value) (w : World) (B : Nat) (ha : Rels w B va rs) (hB : B ≤ w.heap.size) (hx : rs.length ≤ 1048576) (hsh : ∀ i, i < rs.length → Short (rs.getD i noR)) :
    Calls Try.prog 16 #[va] w fun e w' => ∃ Ms, e = .returned (.slice (some ⟨w.heap.size, 0, none⟩) rs.length rs.length) ∧ OwnRs w' w.heap.size Ms rs ∧ Below w.heap.size w w' := by
  obtain ⟨a, b, off, cap, rfl, hma, haa, hca⟩ := ha
  obtain ⟨n, hn⟩ : ∃ n, n = rs.length := ⟨_, rfl⟩
  rw [← hn] at hma hca haa hx hsh
  rw [← hn]
  clear hma
  have HN := Lib.hid hn
  clear hn
  have HC := Lib.hid hca
  have HBB := Lib.hid hB
  have HSH := Lib.hid hsh
  clear hca hB hsh
  have hmk := run_make_rels n (by omega)
  go_enter Try.func16, Try.ntmps16
  go_wp2
  go_loopw [4] (fun i wr => ∃ (k : Nat) (Ms : Nat → Nat), k ≤ n ∧ i = .int .i64 k ∧ wr.rowIs w.heap.size 31 (n * 4) (fun j => if j < k * 4 then relF Ms rs j else zeroF j) ∧ (∀ i, i < k → Own wr (Ms i) (rs.getD i noR) ∧ w.heap.size < Ms i) ∧ Below w.heap.size w wr ∧ w.heap.size < wr.heap.size) (fun i _ => n - (intOf i).toNat)
  case atStart =>
    exact ⟨0, fun _ => 0, Nat.zero_le _, rfl, (made_row w n).congr fun i hi => by simp, fun i hi => absurd hi (Nat.not_lt_zero i), (Below.refl _ _).alloc (Nat.le_refl _) _, by simp⟩
  case round =>
    obtain ⟨k, Ms, hk, rfl, hrow, hown, hbel, hsz⟩ := hrel
    have HR := Lib.hid hrow
    have HO := Lib.hid hown
    have HBL := Lib.hid hbel
    clear hrow hbel hmk hown
    by_cases hlt : k < n
    · obtain rfl := (haa (by omega)).1
      have hbB := (haa (by omega)).2
      have h4 := RelPtrAt.below (HC.out k hlt) HBL.out HBB.out (by have := HBB.out; omega)
      have HS := Lib.hid (HSH.out k hlt)
      obtain ⟨x, hx⟩ : ∃ x, x = rs.getD k noR := ⟨_, rfl⟩
      rw [← hx] at h4 HS
      have HX := Lib.hid hx
      obtain ⟨ua, un, c0, c1, c2, c3, hua, hun⟩ := h4
      have HT := Lib.hid (copyOwnM (.agg #[.int .i64 x.tapes, .int .i64 x.start, ua, un]) x wr B ⟨ua, un, rfl, hua, hun⟩ (by have := HBB.out; omega) HS.out)
      clear haa hx hua hun
      go_wp2_with fail
      refine HT.out.mono ?_
      rintro e w1 ⟨M, rfl, ho, hb, hM⟩
      have H1 := Lib.hid hb
      have H2 := Lib.hid ho
      have HR1 := Lib.hid (rowIs_below HR.out hb hsz)
      have hsz1 := HR1.out.lt
      have f0 := HR1.out.frozen (k * 4)
      have f1 := HR1.out.frozen (k * 4 + 1)
      have f2 := HR1.out.frozen (k * 4 + 2)
      have f3 := HR1.out.frozen (k * 4 + 3)
      have d0 : w1.cell? ⟨w.heap.size, k * 4, none⟩ = some (.int .i64 0) := by rw [HR1.out.cell (by omega), if_neg (by omega)]; unfold zeroF; rw [if_pos (by omega)]
      have d1 : w1.cell? ⟨w.heap.size, k * 4 + 1, none⟩ = some (.int .i64 0) := by rw [HR1.out.cell (by omega), if_neg (by omega)]; unfold zeroF; rw [if_pos (by omega)]
      have d2 : w1.cell? ⟨w.heap.size, k * 4 + 2, none⟩ = some (.slice none 0 0) := by rw [HR1.out.cell (by omega), if_neg (by omega)]; unfold zeroF; rw [if_neg (by omega)]
      have d3 : w1.cell? ⟨w.heap.size, k * 4 + 3, none⟩ = some (.slice none 0 0) := by rw [HR1.out.cell (by omega), if_neg (by omega)]; unfold zeroF; rw [if_neg (by omega)]
      have HM := Lib.hid (show w.heap.size < M by omega)
      clear hb ho c0 c1 c2 c3 HR HT hM
      go_wp2
      go_roundw
      case rel =>
        refine ⟨k + 1, fun i => if i = k then M else Ms i, by omega, by go_num, (rowIs_set4 HR1.out k _ _ _ _).congr fun j hj => step4 Ms rs k M x HX.out zeroF j, fun i hi => ?_, ((((HBL.out.trans (H1.out.mono (by omega))).setCell (Nat.le_refl _) _).setCell (Nat.le_refl _) _).setCell (Nat.le_refl _) _).setCell (Nat.le_refl _) _, ?_⟩
        · by_cases e : i = k
          · subst e
            simp only [if_true]
            rw [← HX.out]
            exact ⟨Own.set4 H2.out HM.out _ _ _ _, HM.out⟩
          · simp only [if_neg e]
            obtain ⟨h1, h2⟩ := HO.out i (by omega)
            exact ⟨Own.set4 (h1.step H1.out) h2 _ _ _ _, h2⟩
        · simp only [World.setCell, Array.size_modify]
          omega
      case measure => simp [intOf]; omega
    · obtain rfl : k = n := by omega
      have HRR := Lib.hid (HR.out.congr (g := relF Ms rs) fun i hi => by rw [if_pos (by omega)])
      clear HR
      go_wp2
      go_ret
      exact ⟨Ms, rfl, ⟨by rw [← HN.out]; exact HRR.out, fun i hi => HO.out i (by rw [HN.out]; exact hi), by rw [← HN.out]; exact hx⟩, HBL.out⟩

/-- The copy of a presentation. -/
abbrev freshP (D G : Nat) (p : P) : Value := .agg #[.int .i64 p.dom.tapes, .int .i64 p.dom.start, .slice (some ⟨D, 0, none⟩) p.dom.accept.length p.dom.accept.length, .slice (some ⟨D + 1, 0, none⟩) p.dom.next.length p.dom.next.length, .slice (some ⟨G, 0, none⟩) p.rels.length p.rels.length]
structure OwnP (w : World) (D G : Nat) (Ms : Nat → Nat) (p : P) : Prop where
  dom : Own w D p.dom
  rels : OwnRs w G Ms p.rels
theorem OwnP.step {w w' : World} {D G : Nat} {Ms : Nat → Nat} {p : P} (h : OwnP w D G Ms p) (hb : Below w.heap.size w w') : OwnP w' D G Ms p := ⟨h.dom.step hb, h.rels.step hb⟩
theorem OwnP.reads {w : World} {D G : Nat} {Ms : Nat → Nat} {p : P} (h : OwnP w D G Ms p) : PrAt w w.heap.size (freshP D G p) p := by
  obtain ⟨va, vn, e, ha, hn⟩ := h.dom.reads
  injection e with e
  simp at e
  obtain ⟨rfl, rfl⟩ := e
  exact ⟨_, _, _, rfl, ha, hn, h.rels.reads _ (Nat.le_refl _)⟩
theorem OwnRs.setAway {w : World} {G : Nat} {Ms : Nat → Nat} {rs : List R} (h : OwnRs w G Ms rs) {a : Addr} (ha : a.block < G) (u : Value) : OwnRs (w.setCell a u) G Ms rs :=
  ⟨h.row.setOther (by omega) u, fun i hi => ⟨Own.setAway (h.own i hi).1 (by have := (h.own i hi).2; omega) u, (h.own i hi).2⟩, h.len⟩
theorem OwnP.setAway {w : World} {D G : Nat} {Ms : Nat → Nat} {p : P} (h : OwnP w D G Ms p) {a : Addr} (ha : a.block < D) (hg : a.block < G) (u : Value) : OwnP (w.setCell a u) D G Ms p :=
  ⟨Own.setAway h.dom ha u, h.rels.setAway hg u⟩
theorem copyOwn_at (N : Nat) (v : Value) (r : R) (W : World) (B : Nat) (hN : W.heap.size = N) (hr : RelAt W B v r) (hB : B ≤ W.heap.size) (hs : Short r) :
    Calls Try.prog 15 #[v] W fun e w' => ∃ M, e = .returned (freshV M r) ∧ Own w' M r ∧ Below N W w' ∧ N ≤ M := by
  subst hN; exact copyOwnM v r W B hr hB hs
theorem toRelations_at (N : Nat) (rs : List R) (va : Value) (w : World) (B : Nat) (hN : w.heap.size = N) (ha : Rels w B va rs) (hB : B ≤ w.heap.size) (hx : rs.length ≤ 1048576) (hsh : ∀ i, i < rs.length → Short (rs.getD i noR)) :
    Calls Try.prog 16 #[va] w fun e w' => ∃ Ms, e = .returned (.slice (some ⟨N, 0, none⟩) rs.length rs.length) ∧ OwnRs w' N Ms rs ∧ Below N w w' := by
  subst hN; exact toRelations rs va w B ha hB hx hsh

set_option maxHeartbeats 2000000 in
theorem toPresentation (v : Value) (p : P) (w : World) (B : Nat) (hr : PrAt w B v p) (hB : B ≤ w.heap.size) (hs : ShortP p) :
    Calls Try.prog 7 #[v] w fun e w' => ∃ D G Ms, e = .returned (freshP D G p) ∧ OwnP w' D G Ms p ∧ Below w.heap.size w w' := by
  obtain ⟨va, vn, vr, rfl, hacc, hnx, hrl⟩ := hr
  have H1 := Lib.hid (fun W (h : Below w.heap.size w W) => (show RelAt W B (.agg #[.int .i64 p.dom.tapes, .int .i64 p.dom.start, va, vn]) p.dom from ⟨va, vn, rfl, hacc.below h hB, hnx.below h hB⟩))
  have H2 := Lib.hid (fun W (h : Below w.heap.size w W) => hrl.below h hB)
  have HS := Lib.hid hs
  have HB := Lib.hid hB
  clear hacc hnx hrl hs hB
  obtain ⟨⟨pt, ps, pa, pn⟩, prl⟩ := p
  simp only at H1 H2 HS ⊢
  go_enter Try.func7, Try.ntmps7
  go_wp2_with fail
  refine (copyOwn_at (w.heap.size + 3) _ ⟨pt, ps, pa, pn⟩ _ B (by simp) (H1.out _ (by repeat (first | exact Below.refl _ _ | refine below_drewN ?_ _ | refine Below.alloc ?_ (by simp; try omega) _))) (by have := HB.out; simp; omega) HS.out.1).mono ?_
  rintro e w1 ⟨D, rfl, hr1, hb1, hD⟩
  obtain ⟨hc, hf⟩ := bcell hb1
  have R1 := Lib.hid hr1
  have S1 := Lib.hid (show w.heap.size + 3 ≤ w1.heap.size by have := hb1.size; simp at this; omega)
  have BW : Below w.heap.size w w1 := Below.trans (by repeat (first | exact Below.refl _ _ | refine below_drewN ?_ _ | refine Below.alloc ?_ (by simp; try omega) _)) (hb1.mono (by omega))
  have HBW := Lib.hid BW
  have HD := Lib.hid hD
  have hl1 : w.heap.size + 1 + 1 < w1.heap.size := by have := S1.out; omega
  have hl1b : w.heap.size + 1 < w1.heap.size := by omega
  have hl1c : w.heap.size < w1.heap.size := by omega
  clear hr1 hb1 BW hD
  go_wp2_with fail
  refine (toRelations_at w1.heap.size prl vr _ B (by simp [World.setCell]) (H2.out _ ((((HBW.out.setCell (p := ⟨w.heap.size + 1 + 1, 0, none⟩) (by show w.heap.size ≤ w.heap.size + 1 + 1; omega) _).setCell (p := ⟨w.heap.size + 1 + 1, 1, none⟩) (by show w.heap.size ≤ w.heap.size + 1 + 1; omega) _).setCell (p := ⟨w.heap.size + 1 + 1, 2, none⟩) (by show w.heap.size ≤ w.heap.size + 1 + 1; omega) _).setCell (p := ⟨w.heap.size + 1 + 1, 3, none⟩) (by show w.heap.size ≤ w.heap.size + 1 + 1; omega) _)) (by have h1 := HB.out; have h2 := S1.out; simp only [World.setCell, Array.size_modify]; omega) HS.out.2.1 HS.out.2.2).mono ?_
  rintro e w3 ⟨Ms, rfl, hr3, hb3⟩
  obtain ⟨hc3, hf3⟩ := bcell hb3
  have hl3 : w.heap.size + 1 + 1 < w3.heap.size := by have := hb3.size; simp [World.setCell] at this; omega
  have hl3b : w.heap.size + 1 < w3.heap.size := by omega
  have O3 := Lib.hid (show OwnP w3 D w1.heap.size Ms ⟨⟨pt, ps, pa, pn⟩, prl⟩ from
    ⟨(Own.setAway (Own.setAway (Own.setAway (Own.setAway R1.out (a := ⟨w.heap.size + 1 + 1, 0, none⟩) (by have := HD.out; show w.heap.size + 1 + 1 < D; omega) _) (a := ⟨w.heap.size + 1 + 1, 1, none⟩) (by have := HD.out; show w.heap.size + 1 + 1 < D; omega) _) (a := ⟨w.heap.size + 1 + 1, 2, none⟩) (by have := HD.out; show w.heap.size + 1 + 1 < D; omega) _) (a := ⟨w.heap.size + 1 + 1, 3, none⟩) (by have := HD.out; show w.heap.size + 1 + 1 < D; omega) _).step (by have := hb3; simpa [World.setCell] using this), hr3⟩)
  have BW3 := Lib.hid (((((HBW.out.setCell (p := ⟨w.heap.size + 1 + 1, 0, none⟩) (by show w.heap.size ≤ w.heap.size + 1 + 1; omega) _).setCell (p := ⟨w.heap.size + 1 + 1, 1, none⟩) (by show w.heap.size ≤ w.heap.size + 1 + 1; omega) _).setCell (p := ⟨w.heap.size + 1 + 1, 2, none⟩) (by show w.heap.size ≤ w.heap.size + 1 + 1; omega) _).setCell (p := ⟨w.heap.size + 1 + 1, 3, none⟩) (by show w.heap.size ≤ w.heap.size + 1 + 1; omega) _).trans (hb3.mono (by omega)))
  have HG := Lib.hid (show w.heap.size + 3 ≤ w1.heap.size from S1.out)
  clear hr3 hb3
  go_wp2
  refine bodyPost_ret (v := freshP D w1.heap.size ⟨⟨pt, ps, pa, pn⟩, prl⟩) (by simp [results, Try.results7, go_sem, hc, hc3, hl1, hl1b, hl1c, hl3, hl3b, freshP]) rfl ⟨D, w1.heap.size, Ms, rfl, ?_, ?_⟩
  · refine OwnP.setAway (OwnP.setAway (OwnP.setAway (OwnP.setAway (OwnP.setAway (OwnP.setAway O3.out ?_ ?_ _) ?_ ?_ _) ?_ ?_ _) ?_ ?_ _) ?_ ?_ _) ?_ ?_ _
    all_goals (have h1 := HD.out; have h2 := HG.out; first | (show w.heap.size + 1 < _; omega) | (show w.heap.size + 1 + 1 < _; omega))
  · refine Below.setCell (Below.setCell (Below.setCell (Below.setCell (Below.setCell (Below.setCell BW3.out ?_ _) ?_ _) ?_ _) ?_ _) ?_ _) ?_ _
    all_goals (first | (show w.heap.size ≤ w.heap.size + 1; omega) | (show w.heap.size ≤ w.heap.size + 1 + 1; omega))
end Go.Proofs.Ytapiikkbeboidaa.PresCopy
