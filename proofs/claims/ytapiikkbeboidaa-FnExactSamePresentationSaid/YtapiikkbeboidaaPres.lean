
/- Presentations in memory: how they are measured, copied and compared.
   Conditions: stated at each theorem. -/
import Derived.Test.YtapiikkbeboidaaValidAt
import Derived.Deep.RegionWith
namespace Go.Proofs.Ytapiikkbeboidaa.Pres
set_option linter.unusedVariables false
set_option linter.unusedSimpArgs false
open Go.RowKit Mem Copy Rel Equal ValidAt

/-- A presentation as data. -/
structure P where
  dom : R
  rels : List R
def noR : R := ⟨0, 0, [], []⟩
instance : DecidableEq R := fun a b =>
  decidable_of_iff (a.tapes = b.tapes ∧ a.start = b.start ∧ a.accept = b.accept ∧ a.next = b.next) (by
    obtain ⟨a1, a2, a3, a4⟩ := a
    obtain ⟨b1, b2, b3, b4⟩ := b
    simp)

theorem RelPtrAt.below {w w' : World} {B B' b o : Nat} {r : R} (h : RelPtrAt w B b o r) (hb : Below B' w w') (hB : B ≤ B') (hp : b < B') : RelPtrAt w' B b o r := by
  obtain ⟨va, vn, c0, c1, c2, c3, ha, hn⟩ := h
  exact ⟨va, vn, (hb.cell (p := ⟨b, o, none⟩) hp).trans c0, (hb.cell (p := ⟨b, o + 1, none⟩) hp).trans c1, (hb.cell (p := ⟨b, o + 2, none⟩) hp).trans c2, (hb.cell (p := ⟨b, o + 3, none⟩) hp).trans c3, ha.below hb hB, hn.below hb hB⟩

/-- The slice value v has the relations rs as elements; its row and theirs lie below block B. -/
def Rels (w : World) (B : Nat) (v : Value) (rs : List R) : Prop :=
  ∃ a b off cap, v = .slice a rs.length cap ∧ rs.length ≤ maxLen ∧ (0 < rs.length → a = some ⟨b, off, none⟩ ∧ b < B) ∧ ∀ i, i < rs.length → RelPtrAt w B b (off + i * 4) (rs.getD i noR)
theorem RelPtrAt.mono {w : World} {B B' b o : Nat} {r : R} (h : RelPtrAt w B b o r) (hB : B ≤ B') : RelPtrAt w B' b o r := by
  obtain ⟨va, vn, c0, c1, c2, c3, ha, hn⟩ := h
  exact ⟨va, vn, c0, c1, c2, c3, ha.mono hB, hn.mono hB⟩
theorem Rels.below {w w' : World} {B B' : Nat} {v : Value} {rs : List R} (h : Rels w B v rs) (hb : Below B' w w') (hB : B ≤ B') : Rels w' B v rs := by
  obtain ⟨a, b, off, cap, hv, hm, ha, hc⟩ := h
  exact ⟨a, b, off, cap, hv, hm, ha, fun i hi => RelPtrAt.below (hc i hi) hb hB (by have := (ha (by omega)).2; omega)⟩
theorem Rels.mono {w : World} {B B' : Nat} {v : Value} {rs : List R} (h : Rels w B v rs) (hB : B ≤ B') : Rels w B' v rs := by
  obtain ⟨a, b, off, cap, hv, hm, ha, hc⟩ := h
  exact ⟨a, b, off, cap, hv, hm, fun h => ⟨(ha h).1, Nat.lt_of_lt_of_le (ha h).2 hB⟩, fun i hi => RelPtrAt.mono (hc i hi) hB⟩

/-- The struct value v reads as the presentation p. -/
def PrAt (w : World) (B : Nat) (v : Value) (p : P) : Prop :=
  ∃ va vn vr, v = .agg #[.int .i64 p.dom.tapes, .int .i64 p.dom.start, va, vn, vr] ∧ Bools w B va p.dom.accept ∧ IntRows w B vn p.dom.next ∧ Rels w B vr p.rels
theorem PrAt.below {w w' : World} {B B' : Nat} {v : Value} {p : P} (h : PrAt w B v p) (hb : Below B' w w') (hB : B ≤ B') : PrAt w' B v p := by
  obtain ⟨va, vn, vr, hv, h1, h2, h3⟩ := h
  exact ⟨va, vn, vr, hv, h1.below hb hB, h2.below hb hB, h3.below hb hB⟩
theorem PrAt.mono {w : World} {B B' : Nat} {v : Value} {p : P} (h : PrAt w B v p) (hB : B ≤ B') : PrAt w B' v p := by
  obtain ⟨va, vn, vr, hv, h1, h2, h3⟩ := h
  exact ⟨va, vn, vr, hv, h1.mono hB, h2.mono hB, h3.mono hB⟩

/-! How much of a bound is left. -/
def szRsTo : Int → List R → Int
  | left, [] => left
  | left, r :: rs => if szRel left r < 0 then -1 else szRsTo (szRel left r) rs
def szRs (left : Int) (rs : List R) : Int := if left < (rs.length : Int) then -1 else szRsTo (left - rs.length) rs
def szP (left : Int) (p : P) : Int := if szRel left p.dom < 0 then -1 else if szRs (szRel left p.dom) p.rels < 0 then -1 else szRs (szRel left p.dom) p.rels

theorem szRowsTo_low (xss : List (List Int)) : ∀ left : Int, 0 ≤ left → szRowsTo left xss ≤ left := by
  induction xss with
  | nil => intro l h; exact Int.le_refl _
  | cons x r ih =>
    intro l h
    unfold szRowsTo
    by_cases h1 : l < (x.length : Int)
    · rw [if_pos h1]; omega
    · rw [if_neg h1]
      have := ih (l - x.length) (by omega)
      omega
theorem szRel_low {left : Int} {r : R} (h : 0 ≤ left) : szRel left r ≤ left := by
  unfold szRel
  by_cases h1 : left < (r.accept.length : Int)
  · rw [if_pos h1]; omega
  · rw [if_neg h1]
    unfold szRows
    by_cases h2 : left - r.accept.length < (r.next.length : Int)
    · rw [if_pos h2]; omega
    · rw [if_neg h2]
      have := szRowsTo_low r.next (left - r.accept.length - r.next.length) (by omega)
      omega
theorem short_of' {r : R} {left : Int} (hl : left ≤ 1048576) (h : 0 ≤ szRel left r) : Short r := by
  obtain ⟨a, b, c⟩ := szRel_bounds h
  exact ⟨by omega, by omega, fun i hi => by have := c i hi; omega⟩
theorem szRsTo_short (rs : List R) : ∀ left : Int, 0 ≤ left → left ≤ 1048576 → 0 ≤ szRsTo left rs → ∀ i, i < rs.length → Short (rs.getD i noR) := by
  induction rs with
  | nil => intro l h0 h1 h i hi; simp at hi
  | cons r rs ih =>
    intro l h0 h1 h i hi
    unfold szRsTo at h
    by_cases hn : szRel l r < 0
    · rw [if_pos hn] at h; omega
    · rw [if_neg hn] at h
      cases i with
      | zero => exact (show Short r from short_of' h1 (by omega))
      | succ i => exact ih (szRel l r) (by omega) (by have := szRel_low (left := l) (r := r) h0; omega) h i (by simpa using hi)
theorem szRsTo_low (rs : List R) : ∀ left : Int, 0 ≤ left → szRsTo left rs ≤ left := by
  induction rs with
  | nil => intro l h; exact Int.le_refl _
  | cons r rs ih =>
    intro l h
    unfold szRsTo
    by_cases h1 : szRel l r < 0
    · rw [if_pos h1]; omega
    · rw [if_neg h1]
      have := ih (szRel l r) (by omega)
      have := szRel_low (left := l) (r := r) h
      omega
/-- The bound that the laws set is kept by what is short. -/
def ShortP (p : P) : Prop := Short p.dom ∧ p.rels.length ≤ 1048576 ∧ ∀ i, i < p.rels.length → Short (p.rels.getD i noR)
theorem shortP_of {left : Int} {p : P} (h0 : 0 ≤ left) (hl : left ≤ 1048576) (h : 0 ≤ szP left p) : ShortP p := by
  unfold szP at h
  by_cases h1 : szRel left p.dom < 0
  · rw [if_pos h1] at h; omega
  · rw [if_neg h1] at h
    have hlow := szRel_low (left := left) (r := p.dom) h0
    unfold szRs at h
    by_cases h2 : szRel left p.dom < (p.rels.length : Int)
    · rw [if_pos h2] at h; simp at h
    · rw [if_neg h2] at h
      by_cases h3 : szRsTo (szRel left p.dom - p.rels.length) p.rels < 0
      · rw [if_pos h3] at h; omega
      · rw [if_neg h3] at h
        exact ⟨short_of' hl (by omega), by omega, szRsTo_short p.rels (szRel left p.dom - p.rels.length) (by omega) (by omega) (by omega)⟩
theorem szP_low {left : Int} {p : P} (h : 0 ≤ left) : szP left p ≤ left := by
  unfold szP
  by_cases h1 : szRel left p.dom < 0
  · rw [if_pos h1]; omega
  · rw [if_neg h1]
    have hlow := szRel_low (left := left) (r := p.dom) h
    by_cases h2 : szRs (szRel left p.dom) p.rels < 0
    · rw [if_pos h2]; omega
    · rw [if_neg h2]
      unfold szRs at h2 ⊢
      by_cases h3 : szRel left p.dom < (p.rels.length : Int)
      · rw [if_pos h3]; omega
      · rw [if_neg h3]
        have := szRsTo_low p.rels (szRel left p.dom - p.rels.length) (by omega)
        omega

set_option maxHeartbeats 1000000 in
theorem szRelations (rs : List R) (va : Value) (left : Int) (w : World) (B : Nat) (ha : Rels w B va rs) (hB : B ≤ w.heap.size) (h0 : 0 ≤ left) (h1 : left ≤ 1048576) :
    Calls Try.prog 13 #[va, .int .i64 left] w fun e w' => e = .returned (.int .i64 (szRs left rs)) ∧ Below w.heap.size w w' := by
  obtain ⟨a, b, off, cap, rfl, hma, haa, hca⟩ := ha
  obtain ⟨n, hn⟩ : ∃ n, n = rs.length := ⟨_, rfl⟩
  rw [← hn] at hma hca haa
  unfold maxLen at hma
  by_cases hbig : left < (n : Int)
  · have HE := Lib.hid (show szRs left rs = -1 by unfold szRs; rw [if_pos (by omega)])
    have ht : left - (n : Int) < 0 := by omega
    rw [← hn]
    clear hn hca haa
    go_enter Try.func13, Try.ntmps13
    go_wp2
    go_ret
    exact ⟨by rw [HE.out]; rfl, Below.refl _ _⟩
  · have HE := Lib.hid (show szRs left rs = szRsTo (left - n) rs by unfold szRs; rw [if_neg (by omega), hn])
    have ht : ¬ left - (n : Int) < 0 := by omega
    rw [← hn]
    have HN := Lib.hid hn
    have HC := Lib.hid hca
    have HB := Lib.hid hB
    clear hn hca
    go_enter Try.func13, Try.ntmps13
    go_wp2
    go_loopw [1, 5] (fun l i wr => ∃ (k : Nat) (L : Int), k ≤ n ∧ i = .int .i64 k ∧ l = .int .i64 L ∧ 0 ≤ L ∧ L ≤ 1048576 ∧ szRsTo (left - n) rs = szRsTo L (rs.drop k) ∧ Below w.heap.size w wr) (fun _ i _ => n - (intOf i).toNat)
    case atStart => exact ⟨0, left - n, Nat.zero_le _, rfl, rfl, by omega, by omega, rfl, Below.refl _ _⟩
    case round =>
      obtain ⟨k, L, hk, rfl, rfl, hL0, hL1, hg, hbel⟩ := hrel
      have HG := Lib.hid hg
      have HBL := Lib.hid hbel
      clear hg ht hbel
      by_cases hlt : k < n
      · obtain rfl := (haa (by omega)).1
        have hbB := (haa (by omega)).2
        have h4 := RelPtrAt.below (HC.out k hlt) HBL.out HB.out (by have := HB.out; omega)
        have HD := Lib.hid (drop_getD rs noR k (by rw [← HN.out]; exact hlt))
        obtain ⟨x, hx⟩ : ∃ x, x = rs.getD k noR := ⟨_, rfl⟩
        rw [← hx] at h4 HD
        clear hx
        obtain ⟨ua, un, c0, c1, c2, c3, hua, hun⟩ := h4
        have HZ := Lib.hid (szRelation (.agg #[.int .i64 x.tapes, .int .i64 x.start, ua, un]) x L wr B ⟨ua, un, rfl, hua, hun⟩ (Nat.le_trans HB.out HBL.out.size) hL0 hL1)
        obtain ⟨z, hz⟩ : ∃ z, z = szRel L x := ⟨_, rfl⟩
        have HSZ := Lib.hid (show z ≤ L by rw [hz]; exact szRel_low hL0)
        rw [← hz] at HZ
        have HZZ := Lib.hid hz
        clear hz hua hun
        have hN : w.heap.size ≤ wr.heap.size := HBL.out.size
        clear haa
        go_wp2_with fail
        refine HZ.out.mono ?_
        rintro e w1 ⟨rfl, hb⟩
        have HB1 := Lib.hid (HBL.out.trans (hb.mono hN))
        clear hb c0 c1 c2 c3
        by_cases hneg : z < 0
        · have HSS := Lib.hid (show szRs left rs = -1 by rw [HE.out, HG.out, HD.out, szRsTo, ← HZZ.out, if_pos hneg])
          go_wp2_with fail
          go_ret
          exact ⟨by rw [HSS.out]; rfl, HB1.out⟩
        · have hz1 : z ≤ 1048576 := by have := HSZ.out; omega
          go_wp2_with fail
          go_roundw
          case rel => exact ⟨k + 1, z, by omega, by go_num, rfl, by omega, hz1, by rw [HG.out, HD.out, szRsTo, ← HZZ.out, if_neg (by omega)], HB1.out⟩
          case measure => simp [intOf]; omega
      · have HSS := Lib.hid (show szRs left rs = L by rw [HE.out, HG.out, List.drop_eq_nil_of_le (by have := HN.out; omega)]; rfl)
        clear haa
        go_wp2
        go_ret
        exact ⟨by rw [HSS.out]; rfl, HBL.out⟩

set_option maxHeartbeats 1000000 in
theorem szPresentation (v : Value) (p : P) (left : Int) (w : World) (B : Nat) (hr : PrAt w B v p) (hB : B ≤ w.heap.size) (h0 : 0 ≤ left) (h1 : left ≤ 1048576) :
    Calls Try.prog 5 #[v, .int .i64 left] w fun e w' => e = .returned (.int .i64 (szP left p)) ∧ Below w.heap.size w w' := by
  obtain ⟨va, vn, vr, rfl, hacc, hnx, hrl⟩ := hr
  have HB0 := Lib.hid (base_box (Below.refl _ w) (.cells #[.int .i64 p.dom.tapes, .int .i64 p.dom.start, va, vn, vr] 28))
  have HR := Lib.hid (fun W (h : Below w.heap.size w W) => szRelation (.agg #[.int .i64 p.dom.tapes, .int .i64 p.dom.start, va, vn]) p.dom left W B ⟨va, vn, rfl, hacc.below h hB, hnx.below h hB⟩ (Nat.le_trans hB h.size) h0 h1)
  obtain ⟨z, hz⟩ : ∃ z, z = szRel left p.dom := ⟨_, rfl⟩
  rw [← hz] at HR
  have HZL := Lib.hid (show z ≤ left by rw [hz]; exact szRel_low h0)
  have HS := Lib.hid (show szP left p = if z < 0 then -1 else if szRs z p.rels < 0 then -1 else szRs z p.rels by unfold szP; rw [hz])
  have HX := Lib.hid (fun W (h : Below w.heap.size w W) => hrl.below h hB)
  have HBB := Lib.hid hB
  clear hz hacc hnx hrl
  by_cases hneg : z < 0
  · have HE := Lib.hid (show szP left p = -1 by rw [HS.out, if_pos hneg])
    go_enter Try.func5, Try.ntmps5
    go_wp2_with fail
    refine (HR.out _ HB0.out).mono ?_
    rintro e w1 ⟨rfl, hb⟩
    have HB1 := Lib.hid (base_step HB0.out hb)
    clear hb
    go_wp2_with fail
    go_ret
    exact ⟨by rw [HE.out]; rfl, HB1.out⟩
  · have HQ := Lib.hid (fun W (h : Below w.heap.size w W) => szRelations p.rels vr z W B (HX.out W h) (Nat.le_trans HBB.out h.size) (by omega) (by have := HZL.out; omega))
    obtain ⟨y, hy⟩ : ∃ y, y = szRs z p.rels := ⟨_, rfl⟩
    rw [← hy] at HQ
    have HE := Lib.hid (show szP left p = if y < 0 then -1 else y by rw [HS.out, if_neg hneg, hy])
    clear hy
    have HK0 := Lib.hid (show (w.alloc (.cells #[.int .i64 p.dom.tapes, .int .i64 p.dom.start, va, vn, vr] 28)).cell? ⟨w.heap.size, 4, none⟩ = some vr from World.cell?_alloc_mark ..)
    by_cases hneg2 : y < 0
    all_goals
      go_enter Try.func5, Try.ntmps5
      go_wp2_with fail
      refine (HR.out _ HB0.out).mono ?_
      rintro e w1 ⟨rfl, hb⟩
      have HB1 := Lib.hid (base_step HB0.out hb)
      have k4 := (hb.cell (p := ⟨w.heap.size, 4, none⟩) (by simp)).trans HK0.out
      have hlw : w.heap.size < w1.heap.size := by have := hb.size; simp at this; omega
      clear hb
      go_wp2_with fail
      refine (HQ.out _ HB1.out).mono ?_
      rintro e w2 ⟨rfl, hb⟩
      have HB2 := Lib.hid (base_step HB1.out hb)
      clear hb
      go_wp2_with fail
      go_ret
      first
        | exact ⟨by rw [HE.out, if_pos hneg2]; rfl, HB2.out⟩
        | exact ⟨by rw [HE.out, if_neg (by omega)]; rfl, HB2.out⟩
end Go.Proofs.Ytapiikkbeboidaa.Pres
