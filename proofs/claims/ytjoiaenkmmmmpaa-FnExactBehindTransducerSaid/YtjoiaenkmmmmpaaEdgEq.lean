
/- The law's comparisons of edges and transducers.
   Conditions: stated at each theorem. -/
import Derived.Test.YtjoiaenkmmmmpaaEdg
import Derived.Deep.RegionWith
namespace Go.Proofs.Ytjoiaenkmmmmpaa.EdgEq
set_option linter.unusedVariables false
set_option linter.unusedSimpArgs false
open Go.RowKit Mem Copy Rel Edg Equal

theorem bytes_ne {x y : ByteArray} (h : ¬ x = y) : (x.toList == y.toList) = false := by
  rw [beq_eq_false_iff_ne]
  intro e
  rw [ByteArray.toList_eq, ByteArray.toList_eq] at e
  exact h (ByteArray.ext (Array.ext' e))

/-- The two edges are equal, told as a truth value. -/
def sameE (x y : E) : Bool := decide (x = y)

set_option maxHeartbeats 400000 in
theorem eqEdge (x y : E) (w : World) :
    Calls Try.prog 76 #[edgeV x, edgeV y] w fun e w' => e = .returned (.bool (sameE x y)) ∧ Below w.heap.size w w' := by
  obtain ⟨xs, xd, xi, xo⟩ := x
  obtain ⟨ys, yd, yi, yo⟩ := y
  have HB := Lib.hid (base_box (base_box (Below.refl _ w) (.cells #[.int .i64 xs, .int .i64 xd, .string xi, .string xo] 50)) (.cells #[.int .i64 ys, .int .i64 yd, .string yi, .string yo] 50))
  unfold edgeV
  by_cases h1 : xs = ys
  · subst h1
    by_cases h2 : xd = yd
    · subst h2
      by_cases h3 : xi = yi
      · subst h3
        by_cases h4 : xo = yo
        · subst h4
          have HE := Lib.hid (show sameE ⟨xs, xd, xi, xo⟩ ⟨xs, xd, xi, xo⟩ = true by simp [sameE])
          go_enter Try.func76, Try.ntmps76
          go_wp2
          go_ret
          exact ⟨by rw [HE.out]; rfl, HB.out⟩
        · have HE := Lib.hid (show sameE ⟨xs, xd, xi, xo⟩ ⟨xs, xd, xi, yo⟩ = false by simp [sameE, h4])
          have t4 : (xo.toList == yo.toList) = false := bytes_ne h4
          go_enter Try.func76, Try.ntmps76
          go_wp2
          go_ret
          exact ⟨by rw [HE.out]; rfl, HB.out⟩
      · have HE := Lib.hid (show sameE ⟨xs, xd, xi, xo⟩ ⟨xs, xd, yi, yo⟩ = false by simp [sameE, h3])
        have t3 : (xi.toList == yi.toList) = false := bytes_ne h3
        go_enter Try.func76, Try.ntmps76
        go_wp2
        go_ret
        exact ⟨by rw [HE.out]; rfl, HB.out⟩
    · have HE := Lib.hid (show sameE ⟨xs, xd, xi, xo⟩ ⟨xs, yd, yi, yo⟩ = false by simp [sameE, h2])
      have t2 : (xd != yd) = true := by rw [bne_iff_ne]; exact h2
      go_enter Try.func76, Try.ntmps76
      go_wp2
      go_ret
      exact ⟨by rw [HE.out]; rfl, HB.out⟩
  · have HE := Lib.hid (show sameE ⟨xs, xd, xi, xo⟩ ⟨ys, yd, yi, yo⟩ = false by simp [sameE, h1])
    have t1 : (xs != ys) = true := by rw [bne_iff_ne]; exact h1
    go_enter Try.func76, Try.ntmps76
    go_wp2
    go_ret
    exact ⟨by rw [HE.out]; rfl, HB.out⟩

theorem sameE_yes {x y : E} (h : x = y) : sameE x y = true := by simp [sameE, h]
theorem sameE_no {x y : E} (h : ¬ x = y) : sameE x y = false := by simp [sameE, h]

set_option maxHeartbeats 1000000 in
theorem eqEdges (xs ys : List E) (va vb : Value) (w : World) (B : Nat) (ha : Edges w B va xs) (hb : Edges w B vb ys) (hB : B ≤ w.heap.size) :
    Calls Try.prog 43 #[va, vb] w fun e w' => e = .returned (.bool (same xs ys)) ∧ Below w.heap.size w w' := by
  obtain ⟨a, ba, oa, ca, rfl, hma, haa, hca⟩ := ha
  obtain ⟨b, bb, ob, cb, rfl, hmb, hbb, hcb⟩ := hb
  unfold maxLen at hma hmb
  by_cases hl : xs.length = ys.length
  · have HL := Lib.hid hl
    obtain ⟨n, hn⟩ : ∃ n, n = xs.length := ⟨_, rfl⟩
    have hn2 : ys.length = n := by omega
    rw [← hn, hn2]
    rw [← hn] at hma hca haa
    rw [hn2] at hcb hbb
    have HN := Lib.hid hn
    have HN2 := Lib.hid hn2
    have HA := Lib.hid hca
    have HBB := Lib.hid hcb
    have HSB := Lib.hid hB
    clear hl hn hn2 hmb hca hcb hB
    go_enter Try.func43, Try.ntmps43
    go_wp2
    go_loopw [5] (fun i wr => ∃ k : Nat, k ≤ n ∧ i = .int .i64 k ∧ xs.take k = ys.take k ∧ Below w.heap.size w wr) (fun i _ => n - (intOf i).toNat)
    case atStart => exact ⟨0, Nat.zero_le _, rfl, rfl, Below.refl _ _⟩
    case round =>
      obtain ⟨k, hk, rfl, hg, hbel⟩ := hrel
      have HG := Lib.hid hg
      have HBL := Lib.hid hbel
      clear hg hbel
      by_cases hlt : k < n
      · obtain rfl := (haa (by omega)).1
        obtain rfl := (hbb (by omega)).1
        have hbA := (haa (by omega)).2
        have hbB := (hbb (by omega)).2
        clear haa hbb
        have h4 := ((HA.out k hlt).1).below HBL.out (by have := HSB.out; omega)
        have g4 := ((HBB.out k hlt).1).below HBL.out (by have := HSB.out; omega)
        obtain ⟨x, hx⟩ : ∃ x, x = xs.getD k noE := ⟨_, rfl⟩
        obtain ⟨y, hy⟩ : ∃ y, y = ys.getD k noE := ⟨_, rfl⟩
        rw [← hx] at h4
        rw [← hy] at g4
        have HX := Lib.hid hx
        have HY := Lib.hid hy
        clear hx hy
        by_cases he : x = y
        all_goals
          have HE := Lib.hid he
          have HW := Lib.hid (fun W => eqEdge x y W)
          first
            | rw [sameE_yes he] at HW
            | rw [sameE_no he] at HW
          clear he
          obtain ⟨c0, c1, c2, c3⟩ := h4
          obtain ⟨d0, d1, d2, d3⟩ := g4
          obtain ⟨xs', xd, xi, xo⟩ := x
          obtain ⟨ys', yd, yi, yo⟩ := y
          unfold edgeV at HW
          simp only at c0 c1 c2 c3 d0 d1 d2 d3 HW
          have hN : w.heap.size ≤ wr.heap.size := HBL.out.size
          go_wp2
          go_region_with (go_at_call 76; refine (HW.out _).mono ?_; rintro e w1 ⟨rfl, hb⟩; have HB1 := Lib.hid (HBL.out.drew.trans (hb.mono hN)); clear hb)
          all_goals go_wp2
          all_goals first
            | (go_roundw
               case rel => exact ⟨k + 1, by omega, by go_num, same_step xs ys noE k (by rw [← HN.out]; exact hlt) (by rw [HN2.out]; exact hlt) HG.out (by rw [← HX.out, ← HY.out]; exact HE.out), HB1.out⟩
               case measure => simp [intOf]; omega)
            | (go_ret
               exact ⟨by rw [same_no xs ys noE k (by rw [← HX.out, ← HY.out]; exact HE.out)]; rfl, HB1.out⟩)
      · have HE := Lib.hid (same_end xs ys k (by rw [← HN.out]; omega) HL.out HG.out)
        go_wp2
        go_ret
        exact ⟨by rw [HE.out]; rfl, HBL.out⟩
  · have HS := Lib.hid (same_len xs ys hl)
    have h1 : ((xs.length : Int) != (ys.length : Int)) = true := by rw [bne_iff_ne]; omega
    obtain ⟨p, hp⟩ : ∃ p : Nat, p = xs.length := ⟨_, rfl⟩
    obtain ⟨q, hq⟩ : ∃ q : Nat, q = ys.length := ⟨_, rfl⟩
    rw [← hp, ← hq] at h1
    rw [← hp, ← hq]
    clear hca hcb hl hma hmb hp hq haa hbb
    go_enter Try.func43, Try.ntmps43
    go_wp2
    go_ret
    exact ⟨by rw [HS.out]; rfl, Below.refl _ _⟩

def sameT (s t : T) : Bool := decide (s.start = t.start) && same s.accept t.accept && same s.edges t.edges
theorem sameT_self (t : T) : sameT t t = true := by simp [sameT, same_self]

set_option maxHeartbeats 1000000 in
theorem eqTransducer (v u : Value) (r s : T) (w : World) (B : Nat) (hr : TrAt w B v r) (hs : TrAt w B u s) (hB : B ≤ w.heap.size) :
    Calls Try.prog 16 #[v, u] w fun e w' => e = .returned (.bool (sameT r s)) ∧ Below w.heap.size w w' := by
  obtain ⟨va, vn, rfl, hacc, hnext⟩ := hr
  obtain ⟨ua, un, rfl, hacc', hnext'⟩ := hs
  have H1 := Lib.hid (fun W (h : Below w.heap.size w W) => hacc.below h hB)
  have H2 := Lib.hid (fun W (h : Below w.heap.size w W) => hnext.below h hB)
  have H3 := Lib.hid (fun W (h : Below w.heap.size w W) => hacc'.below h hB)
  have H4 := Lib.hid (fun W (h : Below w.heap.size w W) => hnext'.below h hB)
  have HBB := Lib.hid hB
  clear hacc hnext hacc' hnext'
  obtain ⟨rs, ra, rn⟩ := r
  obtain ⟨ss, sa, sn⟩ := s
  simp only at H1 H2 H3 H4 ⊢
  have HB0 := Lib.hid (base_box (base_box (Below.refl _ w) (.cells #[.int .i64 rs, va, vn] 30)) (.cells #[.int .i64 ss, ua, un] 30))
  by_cases hst : rs = ss
  · subst hst
    obtain ⟨p, hp⟩ : ∃ p, p = same ra sa := ⟨_, rfl⟩
    obtain ⟨q, hq⟩ : ∃ q, q = same rn sn := ⟨_, rfl⟩
    have HC := Lib.hid (fun W (h : Below w.heap.size w W) => eqBools ra sa va ua W B (H1.out W h) (H3.out W h))
    have HD := Lib.hid (fun W (h : Below w.heap.size w W) => eqEdges rn sn vn un W B (H2.out W h) (H4.out W h) (Nat.le_trans HBB.out h.size))
    have HE := Lib.hid (show sameT ⟨rs, ra, rn⟩ ⟨rs, sa, sn⟩ = (p && q) by simp [sameT, hp, hq])
    rw [← hp] at HC
    rw [← hq] at HD
    clear hp hq
    cases p with
    | false =>
      go_enter Try.func16, Try.ntmps16
      go_wp2_with fail
      refine (HC.out _ HB0.out).mono ?_
      rintro e w1 ⟨rfl, n1, rfl⟩
      go_wp2
      go_ret
      exact ⟨by rw [HE.out]; rfl, by exact below_drewN HB0.out _⟩
    | true =>
      cases q with
      | false =>
        go_enter Try.func16, Try.ntmps16
        go_wp2_with fail
        refine (HC.out _ HB0.out).mono ?_
        rintro e w1 ⟨rfl, n1, rfl⟩
        go_wp2_with fail
        refine (HD.out _ (below_drewN HB0.out _)).mono ?_
        rintro e w1 ⟨rfl, hb⟩
        have B1 := Lib.hid (base_step (below_drewN HB0.out _) hb)
        clear hb
        go_wp2
        go_ret
        exact ⟨by rw [HE.out]; rfl, B1.out⟩
      | true =>
        go_enter Try.func16, Try.ntmps16
        go_wp2_with fail
        refine (HC.out _ HB0.out).mono ?_
        rintro e w1 ⟨rfl, n1, rfl⟩
        go_wp2_with fail
        refine (HD.out _ (below_drewN HB0.out _)).mono ?_
        rintro e w1 ⟨rfl, hb⟩
        have B1 := Lib.hid (base_step (below_drewN HB0.out _) hb)
        clear hb
        go_wp2
        go_ret
        exact ⟨by rw [HE.out]; rfl, B1.out⟩
  · have HE := Lib.hid (show sameT ⟨rs, ra, rn⟩ ⟨ss, sa, sn⟩ = false by simp [sameT, hst])
    have h1 : (rs != ss) = true := by rw [bne_iff_ne]; exact hst
    go_enter Try.func16, Try.ntmps16
    go_wp2
    go_ret
    exact ⟨by rw [HE.out]; rfl, HB0.out⟩
end Go.Proofs.Ytjoiaenkmmmmpaa.EdgEq
