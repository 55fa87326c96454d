
/- The law's comparisons of presentations, and how a presentation that is a law's argument reads in memory.
   Conditions: stated at each theorem. -/
import Derived.Test.YtapiikkbeboidaaPresCopy
import Derived.Test.YtapiikkbeboidaaRead
import Derived.Deep.Fields
import Derived.ChangeSame
namespace Go.Proofs.Ytapiikkbeboidaa.PresEq
set_option linter.unusedVariables false
set_option linter.unusedSimpArgs false
set_option maxRecDepth 20000
open Go.RowKit Mem Copy Rel Equal ValidAt Pres PresCopy

theorem sameRel_eq {x y : R} (h : x = y) : sameRel x y = true := by subst h; exact sameRel_self x
theorem sameRel_ne {x y : R} (h : ¬ x = y) : sameRel x y = false := by
  cases hh : sameRel x y with
  | false => rfl
  | true =>
    unfold sameRel same at hh
    simp only [Bool.and_eq_true, decide_eq_true_eq] at hh
    obtain ⟨⟨⟨h1, h2⟩, h3⟩, h4⟩ := hh
    exact absurd (by obtain ⟨a, b, c, d⟩ := x; obtain ⟨a', b', c', d'⟩ := y; simp only at h1 h2 h3 h4; subst h1 h2 h3 h4; rfl) h

set_option maxHeartbeats 1000000 in
theorem eqRelations (xs ys : List R) (va vb : Value) (w : World) (B : Nat) (ha : Rels w B va xs) (hb : Rels w B vb ys) (hB : B ≤ w.heap.size) :
    Calls Try.prog 19 #[va, vb] w fun e w' => e = .returned (.bool (same xs ys)) ∧ Below w.heap.size w w' := by
  obtain ⟨a, ba, oa, ca, rfl, hma, haa, hca⟩ := ha
  obtain ⟨b, bb, ob, cb, rfl, hmb, hbb, hcb⟩ := hb
  unfold maxLen at hma hmb
  by_cases hl : xs.length = ys.length
  · have HL := Lib.hid hl
    obtain ⟨n, hn⟩ : ∃ n, n = xs.length := ⟨_, rfl⟩
    have hn2 : ys.length = n := by omega
    rw [← hn, hn2]
    rw [← hn] at hma hca haa
    rw [hn2] at hcb hbb
    have HN := Lib.hid hn
    have HN2 := Lib.hid hn2
    have HA := Lib.hid hca
    have HBB := Lib.hid hcb
    have HSB := Lib.hid hB
    clear hl hn hn2 hmb hca hcb hB
    go_enter Try.func19, Try.ntmps19
    go_wp2
    go_loopw [5] (fun i wr => ∃ k : Nat, k ≤ n ∧ i = .int .i64 k ∧ xs.take k = ys.take k ∧ Below w.heap.size w wr) (fun i _ => n - (intOf i).toNat)
    case atStart => exact ⟨0, Nat.zero_le _, rfl, rfl, Below.refl _ _⟩
    case round =>
      obtain ⟨k, hk, rfl, hg, hbel⟩ := hrel
      have HG := Lib.hid hg
      have HBL := Lib.hid hbel
      clear hg hbel
      by_cases hlt : k < n
      · obtain rfl := (haa (by omega)).1
        obtain rfl := (hbb (by omega)).1
        have hbA := (haa (by omega)).2
        have hbB := (hbb (by omega)).2
        clear haa hbb
        have h4 := RelPtrAt.below (HA.out k hlt) HBL.out HSB.out (by have := HSB.out; omega)
        have g4 := RelPtrAt.below (HBB.out k hlt) HBL.out HSB.out (by have := HSB.out; omega)
        obtain ⟨x, hx⟩ : ∃ x, x = xs.getD k noR := ⟨_, rfl⟩
        obtain ⟨y, hy⟩ : ∃ y, y = ys.getD k noR := ⟨_, rfl⟩
        rw [← hx] at h4
        rw [← hy] at g4
        have HX := Lib.hid hx
        have HY := Lib.hid hy
        clear hx hy
        by_cases he : x = y
        all_goals
          have HE := Lib.hid he
          obtain ⟨ua, un, c0, c1, c2, c3, hua, hun⟩ := h4
          obtain ⟨va', vn', d0, d1, d2, d3, hva, hvn⟩ := g4
          have HW := Lib.hid (fun W (hb : Below wr.heap.size wr W) => eqRelation (.agg #[.int .i64 x.tapes, .int .i64 x.start, ua, un]) (.agg #[.int .i64 y.tapes, .int .i64 y.start, va', vn']) x y W B ⟨ua, un, rfl, hua.below hb (Nat.le_trans HSB.out HBL.out.size), hun.below hb (Nat.le_trans HSB.out HBL.out.size)⟩ ⟨va', vn', rfl, hva.below hb (Nat.le_trans HSB.out HBL.out.size), hvn.below hb (Nat.le_trans HSB.out HBL.out.size)⟩ (Nat.le_trans (Nat.le_trans HSB.out HBL.out.size) hb.size))
          first
            | rw [sameRel_eq he] at HW
            | rw [sameRel_ne he] at HW
          clear he hua hun hva hvn
          have hN : w.heap.size ≤ wr.heap.size := HBL.out.size
          go_wp2
          go_region_with (go_at_call 18; refine (HW.out _ ((Below.refl _ _).drew)).mono ?_; rintro e w1 ⟨rfl, hb⟩; have HB1 := Lib.hid (HBL.out.drew.trans (hb.mono hN)); clear hb)
          all_goals go_wp2
          all_goals first
            | (go_roundw
               case rel => exact ⟨k + 1, by omega, by go_num, same_step xs ys noR k (by rw [← HN.out]; exact hlt) (by rw [HN2.out]; exact hlt) HG.out (by rw [← HX.out, ← HY.out]; exact HE.out), HB1.out⟩
               case measure => simp [intOf]; omega)
            | (go_ret
               exact ⟨by rw [same_no xs ys noR k (by rw [← HX.out, ← HY.out]; exact HE.out)]; rfl, HB1.out⟩)
      · have HE := Lib.hid (same_end xs ys k (by rw [← HN.out]; omega) HL.out HG.out)
        go_wp2
        go_ret
        exact ⟨by rw [HE.out]; rfl, HBL.out⟩
  · have HS := Lib.hid (same_len xs ys hl)
    have h1 : ((xs.length : Int) != (ys.length : Int)) = true := by rw [bne_iff_ne]; omega
    obtain ⟨p, hp⟩ : ∃ p : Nat, p = xs.length := ⟨_, rfl⟩
    obtain ⟨q, hq⟩ : ∃ q : Nat, q = ys.length := ⟨_, rfl⟩
    rw [← hp, ← hq] at h1
    rw [← hp, ← hq]
    clear hca hcb hl hma hmb hp hq haa hbb
    go_enter Try.func19, Try.ntmps19
    go_wp2
    go_ret
    exact ⟨by rw [HS.out]; rfl, Below.refl _ _⟩

theorem boxed (w : World) (cs : Array Value) (t : TypeId) (i : Nat) : (w.alloc (.cells cs t)).cell? ⟨w.heap.size, i, none⟩ = cs[i]? := by
  unfold World.cell?
  rw [heap_alloc_new]
  simp
def sameP (p q : P) : Bool := sameRel p.dom q.dom && same p.rels q.rels
theorem sameP_self (p : P) : sameP p p = true := by simp [sameP, sameRel_self, same_self]

set_option maxHeartbeats 1000000 in
theorem eqPresentation (v u : Value) (p q : P) (w : World) (B : Nat) (hr : PrAt w B v p) (hs : PrAt w B u q) (hB : B ≤ w.heap.size) :
    Calls Try.prog 9 #[v, u] w fun e w' => e = .returned (.bool (sameP p q)) ∧ Below w.heap.size w w' := by
  obtain ⟨va, vn, vr, rfl, hacc, hnx, hrl⟩ := hr
  obtain ⟨ua, un, ur, rfl, hacc', hnx', hrl'⟩ := hs
  have HB0 := Lib.hid (base_box (base_box (Below.refl _ w) (.cells #[.int .i64 p.dom.tapes, .int .i64 p.dom.start, va, vn, vr] 34)) (.cells #[.int .i64 q.dom.tapes, .int .i64 q.dom.start, ua, un, ur] 34))
  have HC := Lib.hid (fun W (h : Below w.heap.size w W) => eqRelation (.agg #[.int .i64 p.dom.tapes, .int .i64 p.dom.start, va, vn]) (.agg #[.int .i64 q.dom.tapes, .int .i64 q.dom.start, ua, un]) p.dom q.dom W B ⟨va, vn, rfl, hacc.below h hB, hnx.below h hB⟩ ⟨ua, un, rfl, hacc'.below h hB, hnx'.below h hB⟩ (Nat.le_trans hB h.size))
  have HD := Lib.hid (fun W (h : Below w.heap.size w W) => eqRelations p.rels q.rels vr ur W B (hrl.below h hB) (hrl'.below h hB) (Nat.le_trans hB h.size))
  obtain ⟨a, ha⟩ : ∃ a, a = sameRel p.dom q.dom := ⟨_, rfl⟩
  obtain ⟨b, hb⟩ : ∃ b, b = same p.rels q.rels := ⟨_, rfl⟩
  have HE := Lib.hid (show sameP p q = (a && b) by simp [sameP, ha, hb])
  rw [← ha] at HC
  rw [← hb] at HD
  have HK1 := Lib.hid (show ((w.alloc (.cells #[.int .i64 p.dom.tapes, .int .i64 p.dom.start, va, vn, vr] 34)).alloc (.cells #[.int .i64 q.dom.tapes, .int .i64 q.dom.start, ua, un, ur] 34)).cell? ⟨w.heap.size, 4, none⟩ = some vr by
    rw [World.cell?_alloc_lt _ _ _ (by simp)]; exact World.cell?_alloc_mark ..)
  have HK2 := Lib.hid (show ((w.alloc (.cells #[.int .i64 p.dom.tapes, .int .i64 p.dom.start, va, vn, vr] 34)).alloc (.cells #[.int .i64 q.dom.tapes, .int .i64 q.dom.start, ua, un, ur] 34)).cell? ⟨w.heap.size + 1, 4, none⟩ = some ur by
    have := boxed (w.alloc (.cells #[.int .i64 p.dom.tapes, .int .i64 p.dom.start, va, vn, vr] 34)) #[.int .i64 q.dom.tapes, .int .i64 q.dom.start, ua, un, ur] 34 4
    rw [World.size_alloc] at this
    exact this)
  clear ha hb hacc hnx hrl hacc' hnx' hrl'
  cases a with
  | false =>
    go_enter Try.func9, Try.ntmps9
    go_wp2_with fail
    refine (HC.out _ HB0.out).mono ?_
    rintro e w1 ⟨rfl, hb⟩
    have HB1 := Lib.hid (base_step HB0.out hb)
    clear hb
    go_wp2
    go_ret
    exact ⟨by rw [HE.out]; rfl, HB1.out⟩
  | true =>
    cases b
    all_goals
      go_enter Try.func9, Try.ntmps9
      go_wp2_with fail
      refine (HC.out _ HB0.out).mono ?_
      rintro e w1 ⟨rfl, hb⟩
      have HB1 := Lib.hid (base_step HB0.out hb)
      have k1 := (hb.cell (p := ⟨w.heap.size, 4, none⟩) (by simp; omega)).trans HK1.out
      have k2 := (hb.cell (p := ⟨w.heap.size + 1, 4, none⟩) (by simp)).trans HK2.out
      have hlw : w.heap.size + 1 < w1.heap.size := by have := hb.size; simp at this; omega
      clear hb
      go_wp2_with fail
      refine (HD.out _ HB1.out).mono ?_
      rintro e w2 ⟨rfl, hb⟩
      have HB2 := Lib.hid (base_step HB1.out hb)
      clear hb
      go_wp2
      go_ret
      exact ⟨by rw [HE.out]; rfl, HB2.out⟩

section
open Readings Go.Joins Go.Deep Go.ChangeShapes Go.WideShapes
variable {H : Type} {enc : TypeId × Value → H} {w : World}

theorem cells4 {P : Program} {t : TypeId} (hC : P.cellsOf t = 4) {cs : List Value} (h : cs.length = P.cellsOf t) : ∃ a b c d, cs = [a, b, c, d] := by
  rw [hC] at h
  match cs, h with
  | [a, b, c, d], _ => exact ⟨a, b, c, d, rfl⟩
theorem cells5 {P : Program} {t : TypeId} (hC : P.cellsOf t = 5) {cs : List Value} (h : cs.length = P.cellsOf t) : ∃ a b c d e, cs = [a, b, c, d, e] := by
  rw [hC] at h
  match cs, h with
  | [a, b, c, d, e], _ => exact ⟨a, b, c, d, e, rfl⟩

/-- The cells of a relation. -/
theorem read_cells {fuel : Nat} {c0 c1 c2 c3 : Value} {x : DataW H × List MemPlace} (h : DataW.trod enc Try.prog w 0 (fun _ => true) true fuel 25 [c0, c1, c2, c3] = some x) :
    ∃ r : R, c0 = .int .i64 r.tapes ∧ c1 = .int .i64 r.start ∧ Bools w w.heap.size c2 r.accept ∧ IntRows w w.heap.size c3 r.next := by
  have hI : Try.prog.cellsOf 2 = 1 := by kernel_rfl
  have hS : Try.prog.cellsOf 22 = 1 := by kernel_rfl
  have hT : Try.prog.cellsOf 23 = 1 := by kernel_rfl
  obtain ⟨ys, n, -, -, hl, hyl, hf⟩ := DataW.trod_struct Try.underlying25 h
  match ys, hyl with
  | [y0, y1, y2, y3], _ =>
    have h0 : DataW.trod enc Try.prog w 0 (fun _ => true) true n 2 (List.take (Try.prog.cellsOf 2) [c0, c1, c2, c3]) = some y0 := hf 0 _ rfl
    have h1 : DataW.trod enc Try.prog w 0 (fun _ => true) true n 2 (List.take (Try.prog.cellsOf 2) [c1, c2, c3]) = some y1 := hf 1 _ rfl
    have h2 : DataW.trod enc Try.prog w 0 (fun _ => true) true n 22 (List.take (Try.prog.cellsOf 22) [c2, c3]) = some y2 := hf 2 _ rfl
    have h3 : DataW.trod enc Try.prog w 0 (fun _ => true) true n 23 (List.take (Try.prog.cellsOf 23) [c3]) = some y3 := hf 3 _ rfl
    rw [hI] at h0 h1
    rw [hS] at h2
    rw [hT] at h3
    obtain ⟨n0, e0, -, -⟩ := DataW.trod_int Try.underlying2 h0
    obtain ⟨n1, e1, -, -⟩ := DataW.trod_int Try.underlying2 h1
    obtain ⟨bs, hb⟩ := read_bools (show DataW.trod enc Try.prog w 0 (fun _ => true) true n 22 [c2] = some y2 from h2)
    obtain ⟨xss, hx⟩ := read_rows (show DataW.trod enc Try.prog w 0 (fun _ => true) true n 23 [c3] = some y3 from h3)
    simp at e0 e1
    exact ⟨⟨n0, n1, bs, xss⟩, e0, e1, hb, hx⟩

theorem add_add' (a : Addr) (i j : Nat) : (a.add i).add j = a.add (i + j) := by
  unfold Addr.add
  by_cases hi : i = 0 <;> by_cases hj : j = 0 <;> simp [hi, hj, Nat.add_assoc]

theorem read_rels {fuel : Nat} {v : Value} {x : DataW H × List MemPlace} (h : DataW.trod enc Try.prog w 0 (fun _ => true) true fuel 26 [v] = some x) : ∃ rs, Rels w w.heap.size v rs := by
  have hC : Try.prog.cellsOf 25 = 4 := by kernel_rfl
  rcases open_slice Try.underlying26 h with ⟨hcs, _⟩ | ⟨a, len, cap, m, n, D, Pl, hcs, _, hl, hm, hmm, _, hi⟩
  · simp at hcs; subst hcs
    exact ⟨[], none, 0, 0, 0, rfl, Nat.zero_le _, fun h => absurd h (Nat.lt_irrefl 0), fun i hi => absurd hi (Nat.not_lt_zero i)⟩
  · simp at hcs; subst hcs
    have hlm : len ≤ m := by rw [hmm]; simpa using hl
    have key : ∀ i, ∃ r : R, i < len → ∃ c2 c3, w.cell? ((a.add (i * 4)).add 0) = some (.int .i64 r.tapes) ∧ w.cell? ((a.add (i * 4)).add 1) = some (.int .i64 r.start) ∧ w.cell? ((a.add (i * 4)).add 2) = some c2 ∧ w.cell? ((a.add (i * 4)).add 3) = some c3 ∧ Bools w w.heap.size c2 r.accept ∧ IntRows w w.heap.size c3 r.next := by
      intro i
      by_cases hil : i < len
      · obtain ⟨cs', hc', ht'⟩ := hi i (by omega)
        obtain ⟨-, hl', hcell⟩ := World.cells?_some hc'
        obtain ⟨c0, c1, c2, c3, rfl⟩ := cells4 hC hl'
        rw [hC] at hcell
        obtain ⟨r, e0, e1, hb, hx⟩ := read_cells ht'
        exact ⟨r, fun _ => ⟨c2, c3, by rw [hcell 0 (by omega), ← e0]; rfl, by rw [hcell 1 (by omega), ← e1]; rfl, hcell 2 (by omega), hcell 3 (by omega), hb, hx⟩⟩
      · exact ⟨noR, fun h => absurd h hil⟩
    obtain ⟨e, he⟩ := Classical.skolem.1 key
    clear key
    have hg : ∀ i, i < len → ((List.range len).map e).getD i noR = e i := fun i hi => by simp [List.getD, hi]
    obtain ⟨b, off, spot⟩ := a
    refine ⟨(List.range len).map e, ?_⟩
    unfold Rels
    simp only [List.length_map, List.length_range]
    by_cases h0 : len = 0
    · subst h0
      exact ⟨_, 0, 0, cap, rfl, Nat.zero_le _, fun h => absurd h (Nat.lt_irrefl 0), fun i hi => absurd hi (Nat.not_lt_zero i)⟩
    · obtain ⟨z2, z3, hz, -⟩ := he 0 (by omega)
      rw [add_add'] at hz
      have hspot : spot = none := by
        have := World.cell?_spot hz
        simpa [Addr.add] using this
      subst hspot
      have hp : ∀ i, (⟨b, off, none⟩ : Addr).add i = ⟨b, off + i, none⟩ := by intro i; unfold Addr.add; split <;> simp_all
      refine ⟨_, b, off, cap, rfl, by omega, fun _ => ⟨rfl, ?_⟩, fun i hi => ?_⟩
      · have := World.block_lt_of_cell? w _ hz
        rwa [hp] at this
      · obtain ⟨c2, c3, h1, h2, h3, h4, h5, h6⟩ := he i hi
        rw [hg i hi]
        rw [add_add', hp] at h1 h2 h3 h4
        exact ⟨c2, c3, by simpa using h1, by rw [← Nat.add_assoc] at h2; exact h2, by rw [← Nat.add_assoc] at h3; exact h3, by rw [← Nat.add_assoc] at h4; exact h4, h5, h6⟩

theorem read_pr {r : Reach} {b0 : Nat} {v : Value} {d : DataW H} {p : List MemPlace} (hv : Value.okWide Try.prog w r b0 28 v) (h : DataW.Trod enc Try.prog w 0 (fun _ => true) true 28 v d p) :
    ∃ q, PrAt w w.heap.size v q := by
  have hC : Try.prog.cellsOf 28 = 5 := by kernel_rfl
  have hR : Try.prog.cellsOf 25 = 4 := by kernel_rfl
  have hS : Try.prog.cellsOf 26 = 1 := by kernel_rfl
  obtain ⟨cs, rfl, hsz⟩ := okWide_struct Try.underlying28 hv
  obtain ⟨l⟩ := cs
  obtain ⟨c0, c1, c2, c3, c4, rfl⟩ := cells5 hC (show l.length = _ from hsz)
  obtain ⟨fuel, hf⟩ := h
  obtain ⟨ys, n, -, -, hl, hyl, hg⟩ := DataW.trod_struct Try.underlying28 hf
  match ys, hyl with
  | [y0, y1], _ =>
    have h0 : DataW.trod enc Try.prog w 0 (fun _ => true) true n 25 (List.take (Try.prog.cellsOf 25) [c0, c1, c2, c3, c4]) = some y0 := hg 0 _ rfl
    have h1 : DataW.trod enc Try.prog w 0 (fun _ => true) true n 26 (List.take (Try.prog.cellsOf 26) [c4]) = some y1 := hg 1 _ rfl
    rw [hR] at h0
    rw [hS] at h1
    obtain ⟨r, e0, e1, hb, hx⟩ := read_cells (show DataW.trod enc Try.prog w 0 (fun _ => true) true n 25 [c0, c1, c2, c3] = some y0 from h0)
    obtain ⟨rs, hr⟩ := read_rels (show DataW.trod enc Try.prog w 0 (fun _ => true) true n 26 [c4] = some y1 from h1)
    exact ⟨⟨r, rs⟩, c2, c3, c4, by rw [e0, e1], hb, hx, hr⟩
end
end Go.Proofs.Ytapiikkbeboidaa.PresEq
