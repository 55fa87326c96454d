
/- Relations in memory: how they are measured, copied and compared.
   Conditions: stated at each theorem. -/
import Derived.Test.YtaimealknkhfbaaDoorRB3
import Derived.Laws.IdiomStrings
import Derived.Deep.RegionWith
import Derived.Maps.AppendAt
namespace Go.Proofs.YtaimealknkhfbaaDoor.Rel
set_option linter.unusedVariables false
set_option linter.unusedSimpArgs false
open Go.RowKit Mem Copy Equal

/-- A relation as data. -/
structure R where
  tapes : Int
  start : Int
  accept : List Bool
  next : List (List Int)

/-- The struct value v reads as the relation r; its rows lie below block B. -/
def RelAt (w : World) (B : Nat) (v : Value) (r : R) : Prop :=
  ∃ va vn, v = .agg #[.int .i64 r.tapes, .int .i64 r.start, va, vn] ∧ Bools w B va r.accept ∧ IntRows w B vn r.next

theorem RelAt.below {w w' : World} {B B' : Nat} {v : Value} {r : R} (h : RelAt w B v r) (hb : Below B' w w') (hB : B ≤ B') : RelAt w' B v r := by
  obtain ⟨va, vn, hv, h1, h2⟩ := h
  exact ⟨va, vn, hv, h1.below hb hB, h2.below hb hB⟩
theorem RelAt.drew {w : World} {B : Nat} {v : Value} {r : R} (h : RelAt w B v r) : RelAt w.drew B v r := h
theorem RelAt.mono {w : World} {B B' : Nat} {v : Value} {r : R} (h : RelAt w B v r) (hB : B ≤ B') : RelAt w B' v r := by
  obtain ⟨va, vn, hv, h1, h2⟩ := h
  exact ⟨va, vn, hv, h1.mono hB, h2.mono hB⟩

/-- What is left of a bound behind a list of n elements; -1 if it is not enough. -/
def szL (left n : Int) : Int := if left < n then -1 else left - n
def szRowsTo : Int → List (List Int) → Int
  | left, [] => left
  | left, x :: r => if left < (x.length : Int) then -1 else szRowsTo (left - x.length) r
def szRows (left : Int) (xss : List (List Int)) : Int := if left < (xss.length : Int) then -1 else szRowsTo (left - xss.length) xss
def szRel (left : Int) (r : R) : Int := if left < (r.accept.length : Int) then -1 else szRows (left - r.accept.length) r.next

theorem szRowsTo_le (xss : List (List Int)) : ∀ left : Int, 0 ≤ szRowsTo left xss → ∀ x ∈ xss, (x.length : Int) ≤ left := by
  induction xss with
  | nil => intro _ _ x hx; cases hx
  | cons y r ih =>
    intro left h x hx
    unfold szRowsTo at h
    by_cases hc : left < (y.length : Int)
    · rw [if_pos hc] at h; omega
    · rw [if_neg hc] at h
      rcases List.mem_cons.1 hx with rfl | hx
      · omega
      · have := ih _ h x hx; omega

theorem szRel_bounds {left : Int} {r : R} (h : 0 ≤ szRel left r) : (r.accept.length : Int) ≤ left ∧ (r.next.length : Int) ≤ left ∧ ∀ i, i < r.next.length → ((r.next.getD i []).length : Int) ≤ left := by
  unfold szRel at h
  by_cases h1 : left < (r.accept.length : Int)
  · rw [if_pos h1] at h; omega
  · rw [if_neg h1] at h
    unfold szRows at h
    by_cases h2 : left - r.accept.length < (r.next.length : Int)
    · rw [if_pos h2] at h; omega
    · rw [if_neg h2] at h
      refine ⟨by omega, by omega, fun i hi => ?_⟩
      have := szRowsTo_le _ _ h (r.next.getD i []) (by simp [List.getD, hi])
      omega

theorem szBools (a : Option Addr) (n cap : Nat) (left : Int) (w : World) (h0 : 0 ≤ left) (h1 : left ≤ 1048576) (hn : n ≤ maxLen) :
    Calls Tryd.prog 11 #[.slice a n cap, .int .i64 left] w fun e w' => e = .returned (.int .i64 (szL left n)) ∧ w = w' := by
  unfold maxLen at hn
  by_cases h : left < (n : Int)
  · have E := Lib.hid (show szL left n = -1 by simp [szL, h])
    have ht : left - (n : Int) < 0 := by omega
    go_enter Tryd.func11, Tryd.ntmps11
    go_wp2
    go_ret
    exact ⟨by rw [E.out]; rfl, rfl⟩
  · have E := Lib.hid (show szL left n = left - n by simp [szL, h])
    have ht : ¬ left - (n : Int) < 0 := by omega
    go_enter Tryd.func11, Tryd.ntmps11
    go_wp2
    go_ret
    exact ⟨by rw [E.out]; rfl, rfl⟩

theorem szInts (a : Option Addr) (n cap : Nat) (left : Int) (w : World) (h0 : 0 ≤ left) (h1 : left ≤ 1048576) (hn : n ≤ maxLen) :
    Calls Tryd.prog 28 #[.slice a n cap, .int .i64 left] w fun e w' => e = .returned (.int .i64 (szL left n)) ∧ w = w' := by
  unfold maxLen at hn
  by_cases h : left < (n : Int)
  · have E := Lib.hid (show szL left n = -1 by simp [szL, h])
    have ht : left - (n : Int) < 0 := by omega
    go_enter Tryd.func28, Tryd.ntmps28
    go_wp2
    go_ret
    exact ⟨by rw [E.out]; rfl, rfl⟩
  · have E := Lib.hid (show szL left n = left - n by simp [szL, h])
    have ht : ¬ left - (n : Int) < 0 := by omega
    go_enter Tryd.func28, Tryd.ntmps28
    go_wp2
    go_ret
    exact ⟨by rw [E.out]; rfl, rfl⟩

theorem drop_getD {α : Type} (xs : List α) (d : α) (k : Nat) (h : k < xs.length) : xs.drop k = xs.getD k d :: xs.drop (k + 1) := by
  rw [List.drop_eq_getElem_cons h]; simp [List.getD, h]

set_option maxHeartbeats 1000000 in
theorem szIntRows (xss : List (List Int)) (va : Value) (left : Int) (w : World) (B : Nat) (ha : IntRows w B va xss) (h0 : 0 ≤ left) (h1 : left ≤ 1048576) :
    Calls Tryd.prog 12 #[va, .int .i64 left] w fun e w' => e = .returned (.int .i64 (szRows left xss)) ∧ w = w' := by
  obtain ⟨U, ⟨a, b, off, cap, rfl, hma, haa, hca⟩, hU⟩ := ha
  obtain ⟨n, hn⟩ : ∃ n, n = xss.length := ⟨_, rfl⟩
  rw [← hn] at hma hca haa hU
  unfold maxLen at hma
  by_cases hbig : left < (n : Int)
  · have E := Lib.hid (show szRows left xss = -1 by unfold szRows; rw [if_pos (by omega)])
    have ht : left - (n : Int) < 0 := by omega
    rw [← hn]
    clear hn hca hU haa
    go_enter Tryd.func12, Tryd.ntmps12
    go_wp2
    go_ret
    exact ⟨by rw [E.out]; rfl, rfl⟩
  · have E := Lib.hid (show szRows left xss = szRowsTo (left - n) xss by unfold szRows; rw [if_neg (by omega), hn])
    have ht : ¬ left - (n : Int) < 0 := by omega
    rw [← hn]
    have HN := Lib.hid hn
    clear hn
    go_enter Tryd.func12, Tryd.ntmps12
    go_wp2
    go_loop [1, 5] (fun l i => ∃ (k : Nat) (L : Int), k ≤ n ∧ i = .int .i64 k ∧ l = .int .i64 L ∧ 0 ≤ L ∧ L ≤ 1048576 ∧ szRowsTo (left - n) xss = szRowsTo L (xss.drop k)) (fun _ i => n - (intOf i).toNat)
    case atStart => exact ⟨0, left - n, Nat.zero_le _, rfl, rfl, by omega, by omega, rfl⟩
    case round =>
      obtain ⟨k, L, hk, rfl, rfl, hL0, hL1, hg⟩ := hrel
      have HG := Lib.hid hg
      clear hg ht
      by_cases hlt : k < n
      · obtain rfl := (haa (by omega)).1
        have cA := hca k hlt
        have hUk := hU k hlt
        obtain ⟨x, hx'⟩ : ∃ x, x = xss.getD k [] := ⟨_, rfl⟩
        obtain ⟨u, hu'⟩ : ∃ u, u = U k := ⟨_, rfl⟩
        rw [← hu'] at cA hUk
        rw [← hx'] at hUk
        have HD := Lib.hid (drop_getD xss [] k (by rw [← HN.out]; exact hlt))
        have HX := Lib.hid hx'
        obtain ⟨ax, bx, ox, cx, hux, hmx, -, -⟩ := hUk
        obtain ⟨p, hp⟩ : ∃ p, p = x.length := ⟨_, rfl⟩
        rw [← hp] at hux hmx
        have HP := Lib.hid hp
        rw [hux] at cA
        clear hca haa hU hx' hu' hux hp
        by_cases hc : L < (p : Int)
        · have E1 := Lib.hid (show szL L p = -1 by simp [szL, hc])
          have ES := Lib.hid (show szRows left xss = -1 by rw [E.out, HG.out, HD.out, szRowsTo, ← HX.out, ← HP.out, if_pos hc])
          go_wp2_with (go_at_call 28; refine (szInts ax p cx L _ hL0 hL1 hmx).mono ?_; rw [E1.out]; rintro e w' ⟨rfl, rfl⟩)
          go_ret
          exact ⟨by rw [ES.out]; rfl, rfl⟩
        · have E1 := Lib.hid (show szL L p = L - p by simp [szL, hc])
          have hn0 : ¬ L - (p : Int) < 0 := by omega
          go_wp2_with (go_at_call 28; refine (szInts ax p cx L _ hL0 hL1 hmx).mono ?_; rw [E1.out]; rintro e w' ⟨rfl, rfl⟩)
          go_round
          case rel => exact ⟨k + 1, L - p, by omega, by go_num, rfl, by omega, by omega, by rw [HG.out, HD.out, szRowsTo, ← HX.out, ← HP.out, if_neg (by omega)]⟩
          case measure => simp [intOf]; omega
      · have ES := Lib.hid (show szRows left xss = L by rw [E.out, HG.out, List.drop_eq_nil_of_le (by have := HN.out; omega)]; rfl)
        clear hca haa hU
        go_wp2
        go_ret
        exact ⟨by rw [ES.out]; rfl, rfl⟩

theorem szRelation (v : Value) (r : R) (left : Int) (w : World) (B : Nat) (hr : RelAt w B v r) (hB : B ≤ w.heap.size) (h0 : 0 ≤ left) (h1 : left ≤ 1048576) :
    Calls Tryd.prog 4 #[v, .int .i64 left] w fun e w' => e = .returned (.int .i64 (szRel left r)) ∧ Below w.heap.size w w' := by
  obtain ⟨va, vn, rfl, hacc, hnext⟩ := hr
  obtain ⟨aa, ba, oa, ca, rfl, hma, -, -⟩ := hacc
  obtain ⟨n, hn⟩ : ∃ n, n = r.accept.length := ⟨_, rfl⟩
  rw [← hn] at hma
  rw [← hn]
  have HN := Lib.hid hn
  have hnext2 : ∀ W, Below w.heap.size w W → IntRows W B vn r.next := fun W h => hnext.below h hB
  have HX := Lib.hid hnext2
  clear hnext2 hnext hn
  by_cases hc : left < (n : Int)
  · have E1 := Lib.hid (show szL left n = -1 by simp [szL, hc])
    have ES := Lib.hid (show szRel left r = -1 by unfold szRel; rw [if_pos (by rw [← HN.out]; exact hc)])
    go_enter Tryd.func4, Tryd.ntmps4
    go_wp2_with (go_at_call 11; refine (szBools aa n ca left _ h0 h1 hma).mono ?_; rw [E1.out]; rintro e w' ⟨rfl, rfl⟩)
    go_ret
    exact ⟨by rw [ES.out]; rfl, (Below.refl _ _).alloc (Nat.le_refl _) _⟩
  · have E1 := Lib.hid (show szL left n = left - n by simp [szL, hc])
    have E2 := Lib.hid (show szRel left r = szRows (left - n) r.next by unfold szRel; rw [if_neg (by rw [← HN.out]; omega), HN.out])
    have hn0 : ¬ left - (n : Int) < 0 := by omega
    obtain ⟨q, hq⟩ : ∃ q, q = szRows (left - n) r.next := ⟨_, rfl⟩
    have HQ := Lib.hid hq
    clear hq
    by_cases hneg : q < 0
    · have E3 := Lib.hid (show q = -1 by
        have hh := HQ.out
        unfold szRows at hh
        by_cases h : left - n < (r.next.length : Int)
        · rw [if_pos h] at hh; exact hh
        · rw [if_neg h] at hh
          have key : ∀ (xs : List (List Int)) (l : Int), 0 ≤ l → szRowsTo l xs = -1 ∨ 0 ≤ szRowsTo l xs := by
            intro xs
            induction xs with
            | nil => intro l hl; exact .inr hl
            | cons y ys ih =>
              intro l hl
              unfold szRowsTo
              by_cases hy : l < (y.length : Int)
              · rw [if_pos hy]; exact .inl rfl
              · rw [if_neg hy]; exact ih _ (by omega)
          rcases key r.next (left - n - r.next.length) (by omega) with h' | h'
          · rw [hh]; exact h'
          · omega)
      go_enter Tryd.func4, Tryd.ntmps4
      go_wp2_with (first | (go_at_call 11; refine (szBools aa n ca left _ h0 h1 hma).mono ?_; rw [E1.out]; rintro e w' ⟨rfl, rfl⟩) | (go_at_call 12; refine (szIntRows r.next vn (left - n) _ B (HX.out _ ((Below.refl _ _).alloc (Nat.le_refl _) _)) (by omega) (by omega)).mono ?_; rw [← HQ.out]; rintro e w' ⟨rfl, rfl⟩))
      go_ret
      exact ⟨by rw [E2.out, ← HQ.out, E3.out]; rfl, (Below.refl _ _).alloc (Nat.le_refl _) _⟩
    · go_enter Tryd.func4, Tryd.ntmps4
      go_wp2_with (first | (go_at_call 11; refine (szBools aa n ca left _ h0 h1 hma).mono ?_; rw [E1.out]; rintro e w' ⟨rfl, rfl⟩) | (go_at_call 12; refine (szIntRows r.next vn (left - n) _ B (HX.out _ ((Below.refl _ _).alloc (Nat.le_refl _) _)) (by omega) (by omega)).mono ?_; rw [← HQ.out]; rintro e w' ⟨rfl, rfl⟩))
      go_ret
      exact ⟨by rw [E2.out, ← HQ.out]; rfl, (Below.refl _ _).alloc (Nat.le_refl _) _⟩

def sameRel (r s : R) : Bool := decide (r.tapes = s.tapes) && decide (r.start = s.start) && same r.accept s.accept && same r.next s.next

theorem sameRel_self (r : R) : sameRel r r = true := by simp [sameRel, same_self]

set_option maxHeartbeats 1000000 in
theorem eqRelation (v u : Value) (r s : R) (w : World) (B : Nat) (hr : RelAt w B v r) (hs : RelAt w B u s) (hB : B ≤ w.heap.size) :
    Calls Tryd.prog 8 #[v, u] w fun e w' => e = .returned (.bool (sameRel r s)) ∧ Below w.heap.size w w' := by
  obtain ⟨va, vn, rfl, hacc, hnext⟩ := hr
  obtain ⟨ua, un, rfl, hacc', hnext'⟩ := hs
  have H1 := Lib.hid (fun W (h : Below w.heap.size w W) => hacc.below h hB)
  have H2 := Lib.hid (fun W (h : Below w.heap.size w W) => hnext.below h hB)
  have H3 := Lib.hid (fun W (h : Below w.heap.size w W) => hacc'.below h hB)
  have H4 := Lib.hid (fun W (h : Below w.heap.size w W) => hnext'.below h hB)
  clear hacc hnext hacc' hnext'
  obtain ⟨rt, rs, ra, rn⟩ := r
  obtain ⟨st, ss, sa, sn⟩ := s
  simp only at H1 H2 H3 H4 ⊢
  by_cases ht : rt = st
  · subst ht
    by_cases hst : rs = ss
    · subst hst
      by_cases hA : ra = sa
      · subst hA
        by_cases hN : rn = sn
        · subst hN
          have HA := Lib.hid (same_self ra)
          have HN := Lib.hid (same_self rn)
          have HE := Lib.hid (sameRel_self ⟨rt, rs, ra, rn⟩)
          go_enter Tryd.func8, Tryd.ntmps8
          go_wp2_with fail
          refine (eqBools ra ra va ua _ B (H1.out _ (by repeat (first | exact Below.refl _ _ | refine below_drewN ?_ _ | refine Below.alloc ?_ (by simp) _))) (H3.out _ (by repeat (first | exact Below.refl _ _ | refine below_drewN ?_ _ | refine Below.alloc ?_ (by simp) _)))).mono ?_
          rw [HA.out]
          rintro e w1 ⟨rfl, n1, rfl⟩
          go_wp2_with fail
          refine (eqRows rn rn vn un _ B (H2.out _ (by repeat (first | exact Below.refl _ _ | refine below_drewN ?_ _ | refine Below.alloc ?_ (by simp) _))) (H4.out _ (by repeat (first | exact Below.refl _ _ | refine below_drewN ?_ _ | refine Below.alloc ?_ (by simp) _)))).mono ?_
          rw [HN.out]
          rintro e w1 ⟨rfl, n2, rfl⟩
          go_wp2
          go_ret
          exact ⟨by rw [HE.out]; rfl, by repeat (first | exact Below.refl _ _ | refine below_drewN ?_ _ | refine Below.alloc ?_ (by simp) _)⟩
        · have HA := Lib.hid (same_self ra)
          have HN := Lib.hid (show same rn sn = false by simp [same, hN])
          have HE := Lib.hid (show sameRel ⟨rt, rs, ra, rn⟩ ⟨rt, rs, ra, sn⟩ = false by simp [sameRel, HN.out])
          clear hN
          go_enter Tryd.func8, Tryd.ntmps8
          go_wp2_with fail
          refine (eqBools ra ra va ua _ B (H1.out _ (by repeat (first | exact Below.refl _ _ | refine below_drewN ?_ _ | refine Below.alloc ?_ (by simp) _))) (H3.out _ (by repeat (first | exact Below.refl _ _ | refine below_drewN ?_ _ | refine Below.alloc ?_ (by simp) _)))).mono ?_
          rw [HA.out]
          rintro e w1 ⟨rfl, n1, rfl⟩
          go_wp2_with fail
          refine (eqRows rn sn vn un _ B (H2.out _ (by repeat (first | exact Below.refl _ _ | refine below_drewN ?_ _ | refine Below.alloc ?_ (by simp) _))) (H4.out _ (by repeat (first | exact Below.refl _ _ | refine below_drewN ?_ _ | refine Below.alloc ?_ (by simp) _)))).mono ?_
          rw [HN.out]
          rintro e w1 ⟨rfl, n2, rfl⟩
          go_wp2
          go_ret
          exact ⟨by rw [HE.out]; rfl, by repeat (first | exact Below.refl _ _ | refine below_drewN ?_ _ | refine Below.alloc ?_ (by simp) _)⟩
      · have HA := Lib.hid (show same ra sa = false by simp [same, hA])
        have HE := Lib.hid (show sameRel ⟨rt, rs, ra, rn⟩ ⟨rt, rs, sa, sn⟩ = false by simp [sameRel, HA.out])
        clear hA
        go_enter Tryd.func8, Tryd.ntmps8
        go_wp2_with fail
        refine (eqBools ra sa va ua _ B (H1.out _ (by repeat (first | exact Below.refl _ _ | refine below_drewN ?_ _ | refine Below.alloc ?_ (by simp) _))) (H3.out _ (by repeat (first | exact Below.refl _ _ | refine below_drewN ?_ _ | refine Below.alloc ?_ (by simp) _)))).mono ?_
        rw [HA.out]
        rintro e w1 ⟨rfl, n1, rfl⟩
        go_wp2
        go_ret
        exact ⟨by rw [HE.out]; rfl, by repeat (first | exact Below.refl _ _ | refine below_drewN ?_ _ | refine Below.alloc ?_ (by simp) _)⟩
    · have HE := Lib.hid (show sameRel ⟨rt, rs, ra, rn⟩ ⟨rt, ss, sa, sn⟩ = false by simp [sameRel, hst])
      have h1 : (rs != ss) = true := by rw [bne_iff_ne]; exact hst
      go_enter Tryd.func8, Tryd.ntmps8
      go_wp2
      go_ret
      exact ⟨by rw [HE.out]; rfl, by repeat (first | exact Below.refl _ _ | refine below_drewN ?_ _ | refine Below.alloc ?_ (by simp) _)⟩
  · have HE := Lib.hid (show sameRel ⟨rt, rs, ra, rn⟩ ⟨st, ss, sa, sn⟩ = false by simp [sameRel, ht])
    have h1 : (rt != st) = true := by rw [bne_iff_ne]; exact ht
    go_enter Tryd.func8, Tryd.ntmps8
    go_wp2
    go_ret
    exact ⟨by rw [HE.out]; rfl, by repeat (first | exact Below.refl _ _ | refine below_drewN ?_ _ | refine Below.alloc ?_ (by simp) _)⟩

/-- The relation r lies in rows of its own, from block M on. -/
structure FreshRel (w : World) (M : Nat) (r : R) : Prop where
  accept : w.rowIs M 4 r.accept.length (fun i => .bool (r.accept.getD i false))
  next : OwnRows w (M + 1) r.next
  short : r.accept.length ≤ 1048576 ∧ r.next.length ≤ 1048576 ∧ ∀ i, i < r.next.length → (r.next.getD i []).length ≤ 1048576

abbrev freshV (M : Nat) (r : R) : Value :=
  .agg #[.int .i64 r.tapes, .int .i64 r.start, .slice (some ⟨M, 0, none⟩) r.accept.length r.accept.length, .slice (some ⟨M + 1, 0, none⟩) r.next.length r.next.length]

theorem OwnRows.below {w w' : World} {M B : Nat} {xss : List (List Int)} (h : OwnRows w M xss) (hb : Below B w w') (hB : M + 1 + xss.length ≤ B) : OwnRows w' M xss :=
  ⟨rowIs_below h.1 hb (by omega), fun i hi => rowIs_below (h.2 i hi) hb (by omega)⟩

theorem FreshRel.below {w w' : World} {M B : Nat} {r : R} (h : FreshRel w M r) (hb : Below B w w') (hB : M + 2 + r.next.length ≤ B) : FreshRel w' M r :=
  ⟨rowIs_below h.accept hb (by omega), OwnRows.below h.next hb (by omega), h.short⟩

theorem OwnRows.reads {w : World} {M B : Nat} {xss : List (List Int)} (h : OwnRows w M xss) (hB : M + 1 + xss.length ≤ B) (h1 : xss.length ≤ 1048576) (h2 : ∀ i, i < xss.length → (xss.getD i []).length ≤ 1048576) :
    IntRows w B (.slice (some ⟨M, 0, none⟩) xss.length xss.length) xss :=
  ⟨_, Sl.of_row h.1 B (by omega) (by unfold maxLen; omega), fun i hi => Sl.of_row (h.2 i hi) B (by omega) (by have := h2 i hi; unfold maxLen; omega)⟩

theorem FreshRel.reads {w : World} {M B : Nat} {r : R} (h : FreshRel w M r) (hB : M + 2 + r.next.length ≤ B) : RelAt w B (freshV M r) r :=
  ⟨_, _, rfl, Sl.of_row h.accept B (by omega) (by have := h.short.1; unfold maxLen; omega), OwnRows.reads h.next (by omega) h.short.2.1 h.short.2.2⟩

theorem copyBools_at (N : Nat) (xs : List Bool) (va : Value) (w : World) (B : Nat) (hN : w.heap.size = N) (ha : Bools w B va xs) (hB : B ≤ N) (hx : xs.length ≤ 1048576) :
    Calls Tryd.prog 17 #[va] w fun e w' => e = .returned (.slice (some ⟨N, 0, none⟩) xs.length xs.length) ∧
      w'.rowIs N 4 xs.length (fun i => .bool (xs.getD i false)) ∧ Below N w w' ∧ w'.heap.size = N + 1 := by
  subst hN; exact copyBools xs va w B ha hB hx

theorem copyRows_at (N : Nat) (xss : List (List Int)) (va : Value) (w : World) (B : Nat) (hN : w.heap.size = N) (ha : IntRows w B va xss) (hB : B ≤ N) (hx : xss.length ≤ 1048576) (hxs : ∀ i, i < xss.length → (xss.getD i []).length ≤ 1048576) :
    Calls Tryd.prog 18 #[va] w fun e w' => e = .returned (.slice (some ⟨N, 0, none⟩) xss.length xss.length) ∧
      OwnRows w' N xss ∧ Below N w w' ∧ w'.heap.size = N + 1 + xss.length := by
  subst hN; exact copyRows xss va w B ha hB hx hxs

theorem bcell {N : Nat} {W w1 : World} (hb : Below N W w1) : (∀ b o, b < N → w1.cell? ⟨b, o, none⟩ = W.cell? ⟨b, o, none⟩) ∧ (∀ b o, b < N → w1.frozen? ⟨b, o, none⟩ = W.frozen? ⟨b, o, none⟩) :=
  ⟨fun b o h => hb.cell (p := ⟨b, o, none⟩) h, fun b o h => hb.frozen (p := ⟨b, o, none⟩) h⟩

theorem OwnRows.setAway {w : World} {M : Nat} {xss : List (List Int)} (h : OwnRows w M xss) {a : Addr} (ha : a.block < M) (u : Value) : OwnRows (w.setCell a u) M xss :=
  ⟨h.1.setOther (by omega) u, fun i hi => (h.2 i hi).setOther (by omega) u⟩

set_option maxHeartbeats 1000000 in
theorem toRelation (v : Value) (r : R) (w : World) (B : Nat) (hr : RelAt w B v r) (hB : B ≤ w.heap.size)
    (hs : r.accept.length ≤ 1048576 ∧ r.next.length ≤ 1048576 ∧ ∀ i, i < r.next.length → (r.next.getD i []).length ≤ 1048576) :
    Calls Tryd.prog 6 #[v] w fun e w' => e = .returned (freshV (w.heap.size + 3) r) ∧ FreshRel w' (w.heap.size + 3) r ∧ Below w.heap.size w w' ∧ w'.heap.size = w.heap.size + 5 + r.next.length := by
  obtain ⟨va, vn, rfl, hacc, hnext⟩ := hr
  have H1 := Lib.hid (fun W (h : Below w.heap.size w W) => hacc.below h hB)
  have H2 := Lib.hid (fun W (h : Below w.heap.size w W) => hnext.below h hB)
  have HS := Lib.hid hs
  have HB := Lib.hid hB
  clear hacc hnext hs hB
  obtain ⟨rt, rs, ra, rn⟩ := r
  simp only at H1 H2 HS ⊢
  go_enter Tryd.func6, Tryd.ntmps6
  go_wp2_with fail
  refine (copyBools_at (w.heap.size + 3) ra va _ B (by simp) (H1.out _ (by repeat (first | exact Below.refl _ _ | refine below_drewN ?_ _ | refine Below.alloc ?_ (by simp; try omega) _))) (by have := HB.out; omega) HS.out.1).mono ?_
  rintro e w1 ⟨rfl, hr1, hb1, hs1⟩
  obtain ⟨hc, hf⟩ := bcell hb1
  have R1 := Lib.hid hr1
  have B1 := Lib.hid hb1
  have S1 := Lib.hid hs1
  have BW : Below w.heap.size w w1 := Below.trans (by repeat (first | exact Below.refl _ _ | refine below_drewN ?_ _ | refine Below.alloc ?_ (by simp; try omega) _)) (hb1.mono (by omega))
  clear hr1 hb1 hs1
  have HBW := Lib.hid BW
  clear BW
  go_wp2_with fail
  refine (copyRows_at (w.heap.size + 4) rn vn _ B (by simp [World.setCell, S1.out]) (H2.out _ (HBW.out.setCell (by show w.heap.size ≤ w.heap.size + 1 + 1; omega) _)) (by have := HB.out; omega) HS.out.2.1 HS.out.2.2).mono ?_
  rintro e w3 ⟨rfl, hr3, hb3, hs3⟩
  obtain ⟨hc3, hf3⟩ := bcell hb3
  have R3 := Lib.hid hr3
  have B3 := Lib.hid hb3
  have S3 := Lib.hid hs3
  clear hr3 hb3 hs3
  have F := Lib.hid (R1.out.setOther (a := ⟨w.heap.size + 1 + 1, 2, none⟩) (by show _ ≠ w.heap.size + 1 + 1; omega) (.slice (some ⟨w.heap.size + 3, 0, none⟩) ra.length ra.length))
  have BW3 := Lib.hid ((HBW.out.setCell (p := ⟨w.heap.size + 1 + 1, 2, none⟩) (by show w.heap.size ≤ w.heap.size + 1 + 1; omega) (.slice (some ⟨w.heap.size + 3, 0, none⟩) ra.length ra.length)).trans (B3.out.mono (by omega)))
  have F3 := Lib.hid (rowIs_below F.out B3.out (by omega))
  go_wp2
  refine bodyPost_ret (v := freshV (w.heap.size + 3) ⟨rt, rs, ra, rn⟩) (by simp [results, Tryd.results6, go_sem, hc, hc3]) rfl ⟨rfl, ⟨?_, ?_, HS.out⟩, ?_, ?_⟩
  · refine World.rowIs.setOther (World.rowIs.setOther (World.rowIs.setOther (World.rowIs.setOther (World.rowIs.setOther F3.out ?_ _) ?_ _) ?_ _) ?_ _) ?_ _
    all_goals (first | (show _ ≠ w.heap.size + 1; omega) | (show _ ≠ w.heap.size + 1 + 1; omega))
  · refine OwnRows.setAway (OwnRows.setAway (OwnRows.setAway (OwnRows.setAway (OwnRows.setAway R3.out ?_ _) ?_ _) ?_ _) ?_ _) ?_ _
    all_goals (first | (show w.heap.size + 1 < _; omega) | (show w.heap.size + 1 + 1 < _; omega))
  · refine Below.setCell (Below.setCell (Below.setCell (Below.setCell (Below.setCell BW3.out ?_ _) ?_ _) ?_ _) ?_ _) ?_ _
    all_goals (first | (show w.heap.size ≤ w.heap.size + 1; omega) | (show w.heap.size ≤ w.heap.size + 1 + 1; omega))
  · have := S3.out
    simp only [World.setCell, Array.size_modify]
    omega

/-- The bound that the laws set is kept by what is short. -/
def Short (r : R) : Prop := r.accept.length ≤ 1048576 ∧ r.next.length ≤ 1048576 ∧ ∀ i, i < r.next.length → (r.next.getD i []).length ≤ 1048576

theorem short_of {r : R} (h : 0 ≤ szRel 1048576 r) : Short r := by
  obtain ⟨a, b, c⟩ := szRel_bounds h
  exact ⟨by omega, by omega, fun i hi => by have := c i hi; omega⟩

/-- The copy of a relation, wherever it lies. -/
theorem copyRel (v : Value) (r : R) (w : World) (B : Nat) (hr : RelAt w B v r) (hB : B ≤ w.heap.size) (hs : Short r) :
    Calls Tryd.prog 6 #[v] w fun e w' => ∃ M, e = .returned (freshV M r) ∧ w.heap.size ≤ M ∧ M + 2 + r.next.length ≤ w'.heap.size ∧ FreshRel w' M r ∧ Below w.heap.size w w' :=
  (toRelation v r w B hr hB hs).mono fun _ _ ⟨he, hf, hb, hz⟩ => ⟨_, he, by omega, by omega, hf, hb⟩

/-- Four cells of a block. -/
structure Four (w : World) (b : Nat) (x0 x1 x2 x3 : Value) : Prop where
  c0 : w.cell? ⟨b, 0, none⟩ = some x0
  c1 : w.cell? ⟨b, 1, none⟩ = some x1
  c2 : w.cell? ⟨b, 2, none⟩ = some x2
  c3 : w.cell? ⟨b, 3, none⟩ = some x3

theorem Four.below {w w' : World} {b B : Nat} {x0 x1 x2 x3 : Value} (h : Four w b x0 x1 x2 x3) (hb : Below B w w') (hB : b < B) : Four w' b x0 x1 x2 x3 :=
  ⟨(hb.cell (p := ⟨b, 0, none⟩) hB).trans h.c0, (hb.cell (p := ⟨b, 1, none⟩) hB).trans h.c1, (hb.cell (p := ⟨b, 2, none⟩) hB).trans h.c2, (hb.cell (p := ⟨b, 3, none⟩) hB).trans h.c3⟩

theorem Four.drew {w : World} {b : Nat} {x0 x1 x2 x3 : Value} (h : Four w b x0 x1 x2 x3) : Four w.drew b x0 x1 x2 x3 := ⟨h.c0, h.c1, h.c2, h.c3⟩

theorem Four.boxed (w : World) (x0 x1 x2 x3 : Value) (t : TypeId) : Four (w.alloc (.cells #[x0, x1, x2, x3] t)) w.heap.size x0 x1 x2 x3 :=
  ⟨World.cell?_alloc_mark .., World.cell?_alloc_mark .., World.cell?_alloc_mark .., World.cell?_alloc_mark ..⟩

/-- THE STATE OF A LAW'S WALK, step by step: each step is 'nothing that is there changes' (or a draw, or a new block). -/
theorem base_step {w W W' : World} (h : Below w.heap.size w W) (hb : Below W.heap.size W W') : Below w.heap.size w W' := h.trans (hb.mono h.size)

/-- Four cells of a block that is there. -/
structure Kept (W : World) (b : Nat) (x0 x1 x2 x3 : Value) : Prop where
  four : Four W b x0 x1 x2 x3
  lt : b < W.heap.size

theorem Kept.step {W W' : World} {b : Nat} {x0 x1 x2 x3 : Value} (h : Kept W b x0 x1 x2 x3) (hb : Below W.heap.size W W') : Kept W' b x0 x1 x2 x3 :=
  ⟨h.four.below hb h.lt, Nat.lt_of_lt_of_le h.lt hb.size⟩
theorem Kept.drew {W : World} {b : Nat} {x0 x1 x2 x3 : Value} (h : Kept W b x0 x1 x2 x3) : Kept W.drew b x0 x1 x2 x3 := ⟨h.four.drew, h.lt⟩
theorem Kept.box {W : World} {b : Nat} {x0 x1 x2 x3 : Value} (h : Kept W b x0 x1 x2 x3) (o : Obj) : Kept (W.alloc o) b x0 x1 x2 x3 :=
  h.step ((Below.refl _ _).alloc (Nat.le_refl _) _)
theorem Kept.new (W : World) (x0 x1 x2 x3 : Value) (t : TypeId) : Kept (W.alloc (.cells #[x0, x1, x2, x3] t)) W.heap.size x0 x1 x2 x3 :=
  ⟨Four.boxed .., by simp⟩

/-- A copy that the law owns. -/
structure Own (W : World) (M : Nat) (r : R) : Prop where
  fresh : FreshRel W M r
  top : M + 2 + r.next.length ≤ W.heap.size

theorem Own.step {W W' : World} {M : Nat} {r : R} (h : Own W M r) (hb : Below W.heap.size W W') : Own W' M r :=
  ⟨h.fresh.below hb h.top, Nat.le_trans h.top hb.size⟩
theorem Own.drew {W : World} {M : Nat} {r : R} (h : Own W M r) : Own W.drew M r := h.step ((Below.refl _ _).drew)
theorem Own.box {W : World} {M : Nat} {r : R} (h : Own W M r) (o : Obj) : Own (W.alloc o) M r := h.step ((Below.refl _ _).alloc (Nat.le_refl _) _)
theorem Own.reads {W : World} {M : Nat} {r : R} (h : Own W M r) : RelAt W W.heap.size (freshV M r) r := h.fresh.reads h.top

theorem base_box {w W : World} (h : Below w.heap.size w W) (o : Obj) : Below w.heap.size w (W.alloc o) := base_step h ((Below.refl _ _).alloc (Nat.le_refl _) _)

/-- The copy of a relation, as a step. -/
theorem copyOwn (v : Value) (r : R) (W : World) (B : Nat) (hr : RelAt W B v r) (hB : B ≤ W.heap.size) (hs : Short r) :
    Calls Tryd.prog 6 #[v] W fun e w' => ∃ M, e = .returned (freshV M r) ∧ Own w' M r ∧ Below W.heap.size W w' :=
  (copyRel v r W B hr hB hs).mono fun _ _ ⟨M, he, _, h2, hf, hb⟩ => ⟨M, he, ⟨hf, h2⟩, hb⟩

theorem below_alloc1 {B : Nat} {a w : World} (h : Below B a w) (hB : B ≤ a.heap.size) (o : Obj) : Below B a (w.alloc o) := h.alloc (Nat.le_trans hB h.size) o

end Go.Proofs.YtaimealknkhfbaaDoor.Rel/- Rows that a law marks: their content by the index, and what stays of the rest of the memory.
   Conditions: stated at each theorem. -/
namespace Go.Proofs.YtaimealknkhfbaaDoor.MarkRow
set_option linter.unusedVariables false
set_option linter.unusedSimpArgs false
open Go.RowKit Mem Copy Rel

/-- The slice value v is a row of its own of elements of type t, at block lo or behind it; element i holds f i. -/
def Row (w : World) (lo : Nat) (t : TypeId) (v : Value) (n : Nat) (f : Nat → Value) : Prop :=
  ∃ a cap, v = .slice a n cap ∧ (0 < n → ∃ g m F, a = some ⟨g, 0, none⟩ ∧ lo ≤ g ∧ n ≤ m ∧ w.rowIs g t m F ∧ ∀ i, i < n → F i = f i)

theorem Row.of_row {w : World} {M n : Nat} {t : TypeId} {f : Nat → Value} (h : w.rowIs M t n f) : Row w M t (.slice (some ⟨M, 0, none⟩) n n) n f :=
  ⟨_, _, rfl, fun _ => ⟨M, n, f, rfl, Nat.le_refl _, Nat.le_refl _, h, fun _ _ => rfl⟩⟩

theorem Row.of_owns {w : World} {base : Nat} {t : TypeId} {v : Value} {xs : List Value} (h : w.ownsRow base t 1 v xs.length xs) (f : Nat → Value) (hf : ∀ i (hi : i < xs.length), f i = xs[i]) : Row w base t v xs.length f := by
  rcases h.2 with ⟨rfl, h0⟩ | ⟨g, cap, cur, rfl, hbg, hh, hn, hc, hs, ht⟩
  · rw [h0]; exact ⟨_, _, rfl, fun h => absurd h (Nat.lt_irrefl 0)⟩
  · refine ⟨_, _, rfl, fun _ => ⟨g, cap, fun i => cur.getD i default, rfl, hbg, hn, ⟨cur, hh, by omega, fun i hi => ?_⟩, fun i hi => ?_⟩⟩
    · have : i < cur.size := by omega
      simp [this]
    · rw [hf i hi]
      have h1 : i < cur.size := by omega
      have h2 : xs[i] = cur.toList[i]'(by simpa using h1) := by
        have : xs = cur.toList.take (xs.length * 1) := ht.symm
        rw [List.getElem_of_eq this hi, List.getElem_take]
      rw [h2]; simp [h1]

theorem Row.mono {w : World} {lo lo' : Nat} {t : TypeId} {v : Value} {n : Nat} {f : Nat → Value} (h : Row w lo t v n f) (hl : lo' ≤ lo) : Row w lo' t v n f := by
  obtain ⟨a, cap, rfl, h⟩ := h
  exact ⟨a, cap, rfl, fun hn => by obtain ⟨g, m, F, h1, h2, h3⟩ := h hn; exact ⟨g, m, F, h1, by omega, h3⟩⟩

theorem Row.below {w w' : World} {lo : Nat} {t : TypeId} {v : Value} {n : Nat} {f : Nat → Value} (h : Row w lo t v n f) (hb : Below w.heap.size w w') : Row w' lo t v n f := by
  obtain ⟨a, cap, rfl, h⟩ := h
  exact ⟨a, cap, rfl, fun hn => by obtain ⟨g, m, F, h1, h2, h3, h4, h5⟩ := h hn; exact ⟨g, m, F, h1, h2, h3, rowIs_below h4 hb h4.lt, h5⟩⟩

theorem Row.drewN {w : World} {lo : Nat} {t : TypeId} {v : Value} {n : Nat} {f : Nat → Value} (h : Row w lo t v n f) (m : Nat) : Row (w.drewN m) lo t v n f := h

theorem Row.grown {w w' : World} {lo : Nat} {t : TypeId} {v : Value} {n : Nat} {f : Nat → Value} {row : Option Nat} (h : Row w lo t v n f) (hg : w.grownBy w' row) (hr : ∀ k, row = some k → k < lo) : Row w' lo t v n f := by
  obtain ⟨a, cap, rfl, h⟩ := h
  exact ⟨a, cap, rfl, fun hn => by
    obtain ⟨g, m, F, h1, h2, h3, h4, h5⟩ := h hn
    exact ⟨g, m, F, h1, h2, h3, h4.of_block (hg.block g h4.lt (fun e => by have := hr g e.symm; omega)), h5⟩⟩

theorem Row.reads {w : World} {lo : Nat} {t : TypeId} {v : Value} {n : Nat} {f : Nat → Value} (h : Row w lo t v n f) (hm : n ≤ maxLen) : Sl w w.heap.size v n f := by
  obtain ⟨a, cap, rfl, h⟩ := h
  by_cases hn : 0 < n
  · obtain ⟨g, m, F, h1, h2, h3, h4, h5⟩ := h hn
    exact ⟨a, g, 0, cap, rfl, hm, fun _ => ⟨h1, h4.lt⟩, fun i hi => by rw [Nat.zero_add, h4.cell (by omega), h5 i hi]⟩
  · exact ⟨a, 0, 0, cap, rfl, hm, fun h => absurd h hn, fun i hi => by omega⟩

theorem sl_grown {w w' : World} {B : Nat} {v : Value} {n : Nat} {f : Nat → Value} {row : Option Nat} (h : Sl w B v n f) (hg : w.grownBy w' row) (hr : ∀ k, row = some k → B ≤ k) : Sl w' B v n f := by
  obtain ⟨a, b, off, cap, hv, hm, ha, hc⟩ := h
  refine ⟨a, b, off, cap, hv, hm, ha, fun i hi => ?_⟩
  exact hg.cell (hc i hi) (fun e => by have := hr b e.symm; have := (ha (by omega)).2; omega)

theorem below_grown {B : Nat} {w w1 w' : World} {row : Option Nat} (h : Below B w w1) (hg : w1.grownBy w' row) (hB : B ≤ w1.heap.size) (hr : ∀ k, row = some k → B ≤ k) : Below B w w' :=
  ⟨hg.os.trans h.os, hg.tape.trans h.tape, hg.output.trans h.output, Nat.le_trans h.size hg.size, fun k hk => (hg.block k (by omega) (fun e => by have := hr k e.symm; omega)).trans (h.block k hk)⟩

/-- Only block b has been written, and memory made. -/
theorem grown_set {w W : World} {b : Nat} (h : w.grownBy W (some b)) (x : Nat) (v : Value) : w.grownBy (W.setCell ⟨b, x, none⟩ v) (some b) :=
  ⟨h.os, h.tape, h.output, by simpa [World.setCell] using h.size, fun k hk hne => (Go.Deep.blk_setCell_other _ _ _ _ (fun e => hne (by rw [e]))).trans (h.block k hk hne)⟩
theorem grown_below {w W W' : World} {row : Option Nat} (h : w.grownBy W row) (hb : Below W.heap.size W W') : w.grownBy W' row :=
  ⟨hb.os.trans h.os, hb.tape.trans h.tape, hb.output.trans h.output, Nat.le_trans h.size hb.size, fun k hk hne => (hb.block k (by have := h.size; omega)).trans (h.block k hk hne)⟩
theorem grown_refl (w : World) (row : Option Nat) : w.grownBy w row := ⟨rfl, rfl, rfl, Nat.le_refl _, fun _ _ _ => rfl⟩

set_option maxHeartbeats 1000000 in
theorem markInts (v : Value) (n : Nat) (f : Nat → Value) (k : Nat) (lo : Nat) (w : World) (hr : Row w lo 2 v n f) (hn : n ≤ 1048576) (hk : k ≤ 1048576) :
    Calls Tryd.prog 44 #[v, .int .i64 k] w fun e w' => e = .returned (.int .i64 ((k + n : Nat) : Int)) ∧ Row w' lo 2 v n (fun i => .int .i64 ((k + i : Nat) : Int)) ∧ w.grownBy w' v.ownBlock := by
  obtain ⟨a, cap, rfl, hr⟩ := hr
  by_cases h0 : n = 0
  · subst h0
    clear hr
    go_enter Tryd.func44, Tryd.ntmps44
    go_wp2
    refine wp_loop_rounds 1 ?_
    rw [rounds_succ]
    go_wp2
    go_ret
    exact ⟨rfl, ⟨_, _, rfl, fun h => absurd h (Nat.lt_irrefl 0)⟩, grown_refl _ _⟩
  · obtain ⟨g, m, F, rfl, hlo, hnm, hrow, -⟩ := hr (by omega)
    have hg0 : g < w.heap.size := hrow.lt
    go_enter Tryd.func44, Tryd.ntmps44
    go_wp2
    go_loopw [1, 5] (fun kk i wr => ∃ j : Nat, j ≤ n ∧ i = .int .i64 j ∧ kk = .int .i64 ((k + j : Nat) : Int) ∧ wr.rowIs g 2 m (fun i => if i < j then .int .i64 ((k + i : Nat) : Int) else F i) ∧ w.grownBy wr (some g)) (fun _ i _ => n - (intOf i).toNat)
    case atStart => exact ⟨0, Nat.zero_le _, rfl, rfl, hrow.congr fun i hi => by rw [if_neg (Nat.not_lt_zero i)], grown_refl _ _⟩
    case round =>
      obtain ⟨j, hj, rfl, rfl, hrw, hgr⟩ := hrel
      have HR := Lib.hid hrw
      have HG := Lib.hid hgr
      by_cases hlt : j < n
      · have cN := hrw.cell (show j < m by omega)
        have fN := hrw.frozen j
        rw [if_neg (Nat.lt_irrefl j)] at cN
        obtain ⟨x, hx⟩ : ∃ x, x = F j := ⟨_, rfl⟩
        rw [← hx] at cN
        clear hrw hgr hr hrow hx
        go_wp2
        go_roundw
        case rel =>
          refine ⟨j + 1, hlt, by go_num, by go_num, (HR.out.set j _).congr fun i hi => ?_, grown_set HG.out _ _⟩
          by_cases e : i = j
          · subst e; simp
          · have h1 : (i < j + 1) = (i < j) := by apply propext; constructor <;> intro h <;> omega
            simp only [if_neg e, h1]
        case measure => simp [intOf]; omega
      · obtain rfl : j = n := by omega
        clear hrw hgr hr hrow
        go_wp2
        go_ret
        exact ⟨rfl, ⟨_, _, rfl, fun _ => ⟨g, m, _, rfl, hlo, hnm, HR.out, fun i hi => if_pos hi⟩⟩, HG.out⟩

set_option maxHeartbeats 1000000 in
theorem heldInts (v : Value) (n : Nat) (k : Nat) (B : Nat) (w : World) (hr : Sl w B v n (fun i => .int .i64 ((k + i : Nat) : Int))) (hn : n ≤ 1048576) (hk : k ≤ 1048576) :
    Calls Tryd.prog 45 #[v, .int .i64 k] w fun e w' => e = .returned (.int .i64 ((k + n : Nat) : Int)) ∧ w = w' := by
  obtain ⟨a, b, off, cap, rfl, -, ha, hc⟩ := hr
  go_enter Tryd.func45, Tryd.ntmps45
  go_wp2
  go_loop [1, 5] (fun kk i => ∃ j : Nat, j ≤ n ∧ i = .int .i64 j ∧ kk = .int .i64 ((k + j : Nat) : Int)) (fun _ i => n - (intOf i).toNat)
  case atStart => exact ⟨0, Nat.zero_le _, rfl, rfl⟩
  case round =>
    obtain ⟨j, hj, rfl, rfl⟩ := hrel
    by_cases hlt : j < n
    · obtain rfl := (ha (by omega)).1
      have cA := hc j hlt
      have hne : (((k + j : Nat) : Int) != ((k + j : Nat) : Int)) = false := by simp
      clear hc ha
      go_wp2
      go_round
      case rel => exact ⟨j + 1, hlt, by go_num, by go_num⟩
      case measure => simp [intOf]; omega
    · obtain rfl : j = n := by omega
      clear hc ha
      go_wp2
      go_ret
      exact ⟨rfl, rfl⟩
end Go.Proofs.YtaimealknkhfbaaDoor.MarkRow
/- Rows of truth values that a law marks and looks at.
   Conditions: stated at each theorem. -/
namespace Go.Proofs.YtaimealknkhfbaaDoor.MarkBool
set_option linter.unusedVariables false
set_option linter.unusedSimpArgs false
open Go.RowKit Mem Copy Rel MarkRow

/-- The mark with the number k. -/
def markB (k : Nat) : Bool := ((k : Int) % 3 == 0)

set_option maxHeartbeats 1000000 in
theorem markBools (v : Value) (n : Nat) (f : Nat → Value) (k : Nat) (lo : Nat) (w : World) (hr : Row w lo 4 v n f) (hn : n ≤ 1048576) (hk : k ≤ 100000000) :
    Calls Tryd.prog 24 #[v, .int .i64 k] w fun e w' => e = .returned (.int .i64 ((k + n : Nat) : Int)) ∧ Row w' lo 4 v n (fun i => .bool (markB (k + i))) ∧ ((0 < n ∧ w.grownBy w' v.ownBlock) ∨ w = w') := by
  obtain ⟨a, cap, rfl, hr⟩ := hr
  by_cases h0 : n = 0
  · subst h0
    clear hr
    go_enter Tryd.func24, Tryd.ntmps24
    go_wp2
    refine wp_loop_rounds 1 ?_
    rw [rounds_succ]
    go_wp2
    go_ret
    exact ⟨rfl, ⟨_, _, rfl, fun h => absurd h (Nat.lt_irrefl 0)⟩, .inr rfl⟩
  · obtain ⟨g, m, F, rfl, hlo, hnm, hrow, -⟩ := hr (by omega)
    have hg0 : g < w.heap.size := hrow.lt
    go_enter Tryd.func24, Tryd.ntmps24
    go_wp2
    go_loopw [1, 5] (fun kk i wr => ∃ j : Nat, j ≤ n ∧ i = .int .i64 j ∧ kk = .int .i64 ((k + j : Nat) : Int) ∧ wr.rowIs g 4 m (fun i => if i < j then .bool (markB (k + i)) else F i) ∧ w.grownBy wr (some g)) (fun _ i _ => n - (intOf i).toNat)
    case atStart => exact ⟨0, Nat.zero_le _, rfl, rfl, hrow.congr fun i hi => by rw [if_neg (Nat.not_lt_zero i)], grown_refl _ _⟩
    case round =>
      obtain ⟨j, hj, rfl, rfl, hrw, hgr⟩ := hrel
      have HR := Lib.hid hrw
      have HG := Lib.hid hgr
      by_cases hlt : j < n
      · have cN := hrw.cell (show j < m by omega)
        have fN := hrw.frozen j
        rw [if_neg (Nat.lt_irrefl j)] at cN
        obtain ⟨x, hx⟩ : ∃ x, x = F j := ⟨_, rfl⟩
        rw [← hx] at cN
        clear hrw hgr hr hrow hx
        go_wp2
        go_roundw
        case rel =>
          refine ⟨j + 1, hlt, by go_num, by go_num, (HR.out.set j _).congr fun i hi => ?_, grown_set HG.out _ _⟩
          by_cases e : i = j
          · subst e; simp [markB]
          · have h1 : (i < j + 1) = (i < j) := by apply propext; constructor <;> intro h <;> omega
            simp only [if_neg e, h1]
        case measure => simp [intOf]; omega
      · obtain rfl : j = n := by omega
        clear hrw hgr hr hrow
        go_wp2
        go_ret
        exact ⟨rfl, ⟨_, _, rfl, fun _ => ⟨g, m, _, rfl, hlo, hnm, HR.out, fun i hi => if_pos hi⟩⟩, .inl ⟨by omega, HG.out⟩⟩

set_option maxHeartbeats 1000000 in
theorem heldBools (v : Value) (n : Nat) (k : Nat) (B : Nat) (w : World) (hr : Sl w B v n (fun i => .bool (markB (k + i)))) (hn : n ≤ 1048576) (hk : k ≤ 100000000) :
    Calls Tryd.prog 26 #[v, .int .i64 k] w fun e w' => e = .returned (.int .i64 ((k + n : Nat) : Int)) ∧ w = w' := by
  obtain ⟨a, b, off, cap, rfl, -, ha, hc⟩ := hr
  go_enter Tryd.func26, Tryd.ntmps26
  go_wp2
  go_loop [1, 5] (fun kk i => ∃ j : Nat, j ≤ n ∧ i = .int .i64 j ∧ kk = .int .i64 ((k + j : Nat) : Int)) (fun _ i => n - (intOf i).toNat)
  case atStart => exact ⟨0, Nat.zero_le _, rfl, rfl⟩
  case round =>
    obtain ⟨j, hj, rfl, rfl⟩ := hrel
    by_cases hlt : j < n
    · obtain rfl := (ha (by omega)).1
      have cA : w.cell? ⟨b, off + j, none⟩ = some (.bool (markB (k + j))) := hc j hlt
      unfold markB at cA
      cases hm : (((k + j : Nat) : Int) % 3 == 0) with
      | true =>
        rw [hm] at cA
        have hm2 : (((k : Int) + (j : Int)) % 3 == 0) = true := by rw [← Int.natCast_add]; exact hm
        have hm3 : (((k : Int) + (j : Int)) % 3 = 0) = True := by simpa using hm2
        clear hc ha hm
        go_wp2
        go_round
        case rel => exact ⟨j + 1, hlt, by go_num, by go_num⟩
        case measure => simp [intOf]; omega
      | false =>
        rw [hm] at cA
        have hm2 : (((k : Int) + (j : Int)) % 3 == 0) = false := by rw [← Int.natCast_add]; exact hm
        have hm3 : (((k : Int) + (j : Int)) % 3 = 0) = False := by simpa using hm2
        clear hc ha hm
        go_wp2
        go_round
        case rel => exact ⟨j + 1, hlt, by go_num, by go_num⟩
        case measure => simp [intOf]; omega
    · obtain rfl : j = n := by omega
      clear hc ha
      go_wp2
      go_ret
      exact ⟨rfl, rfl⟩
end Go.Proofs.YtaimealknkhfbaaDoor.MarkBool
