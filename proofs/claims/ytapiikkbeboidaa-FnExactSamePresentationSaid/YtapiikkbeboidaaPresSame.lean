
/- Two presentations are the same, by the model and by the program.
   Conditions: they are read as XPres's text says. -/
import Derived.Test.YtapiikkbeboidaaPresEq
import Derived.Test.YtapiikkbeboidaaSameRel
import Derived.Deep.RegionWith
namespace Go.Proofs.Ytapiikkbeboidaa.PresSame
set_option linter.unusedVariables false
set_option linter.unusedSimpArgs false
open Go.RowKit Mem Rel ValidAt Pres PresEq

theorem sameP_no1 {p q : P} (h : sameRel p.dom q.dom = false) : sameP p q = false := by simp [sameP, h]
theorem sameP_no2 {p q : P} (h : same p.rels q.rels = false) : sameP p q = false := by simp [sameP, h]
theorem sameP_yes {p q : P} (h1 : sameRel p.dom q.dom = true) (h2 : same p.rels q.rels = true) : sameP p q = true := by simp [sameP, h1, h2]

set_option maxHeartbeats 2000000 in
theorem specSame (v u : Value) (p q : P) (w : World) (B : Nat) (hp : PrAt w B v p) (hq : PrAt w B u q) (hB : B ≤ w.heap.size) :
    Calls Try.prog 10 #[v, u] w fun e w' => e = .returned (.bool (sameP p q)) ∧ Below w.heap.size w w' := by
  obtain ⟨va, vn, vr, rfl, hacc, hnx, hrl⟩ := hp
  obtain ⟨ua, un, ur, rfl, hacc', hnx', hrl'⟩ := hq
  have HC := Lib.hid (fun W (h : Below w.heap.size w W) => SameRel.specSame (.agg #[.int .i64 p.dom.tapes, .int .i64 p.dom.start, va, vn]) (.agg #[.int .i64 q.dom.tapes, .int .i64 q.dom.start, ua, un]) p.dom q.dom W B ⟨va, vn, rfl, hacc.below h hB, hnx.below h hB⟩ ⟨ua, un, rfl, hacc'.below h hB, hnx'.below h hB⟩ (Nat.le_trans hB h.size))
  obtain ⟨a, b, off, cap, rfl, hma, haa, hca⟩ := hrl
  obtain ⟨a', b', off', cap', rfl, hmb, hbb, hcb⟩ := hrl'
  unfold maxLen at hma hmb
  obtain ⟨n, hn⟩ : ∃ n, n = p.rels.length := ⟨_, rfl⟩
  obtain ⟨m, hm⟩ : ∃ m, m = q.rels.length := ⟨_, rfl⟩
  rw [← hn] at hma haa hca ⊢
  rw [← hm] at hmb hbb hcb ⊢
  have HA := Lib.hid hca
  have HBB := Lib.hid hcb
  have HSB := Lib.hid hB
  have HN := Lib.hid hn
  have HM := Lib.hid hm
  have HB0 := Lib.hid (base_box (base_box (Below.refl _ w) (.cells #[.int .i64 p.dom.tapes, .int .i64 p.dom.start, va, vn, .slice a n cap] 34)) (.cells #[.int .i64 q.dom.tapes, .int .i64 q.dom.start, ua, un, .slice a' m cap'] 34))
  have HK := Lib.hid (show ∀ w1, Below (w.heap.size + 2) ((w.alloc (.cells #[.int .i64 p.dom.tapes, .int .i64 p.dom.start, va, vn, .slice a n cap] 34)).alloc (.cells #[.int .i64 q.dom.tapes, .int .i64 q.dom.start, ua, un, .slice a' m cap'] 34)) w1 → w1.cell? ⟨w.heap.size, 4, none⟩ = some (.slice a n cap) ∧ w1.cell? ⟨w.heap.size + 1, 4, none⟩ = some (.slice a' m cap') ∧ w.heap.size + 1 < w1.heap.size from fun w1 hb =>
    ⟨(hb.cell (p := ⟨w.heap.size, 4, none⟩) (by show w.heap.size < w.heap.size + 2; omega)).trans (by rw [World.cell?_alloc_lt _ _ _ (by simp)]; exact boxed ..), (hb.cell (p := ⟨w.heap.size + 1, 4, none⟩) (by show w.heap.size + 1 < w.heap.size + 2; omega)).trans (by
      have := boxed (w.alloc (.cells #[.int .i64 p.dom.tapes, .int .i64 p.dom.start, va, vn, .slice a n cap] 34)) #[.int .i64 q.dom.tapes, .int .i64 q.dom.start, ua, un, .slice a' m cap'] 34 4
      rw [World.size_alloc] at this
      exact this), by have := hb.size; simp at this; omega⟩)
  obtain ⟨s, hs⟩ : ∃ s, s = sameRel p.dom q.dom := ⟨_, rfl⟩
  rw [← hs] at HC
  have HSS := Lib.hid hs
  clear hn hm hs hca hcb hacc hnx hacc' hnx' hB
  cases s with
  | false =>
    have HE := Lib.hid (sameP_no1 HSS.out.symm)
    clear haa hbb
    go_enter Try.func10, Try.ntmps10
    go_wp2_with fail
    refine (HC.out _ HB0.out).mono ?_
    rintro e w1 ⟨rfl, hb⟩
    have HB1 := Lib.hid (base_step HB0.out hb)
    clear hb
    go_wp2
    go_ret
    exact ⟨by rw [HE.out]; rfl, HB1.out⟩
  | true =>
    by_cases hl : n = m
    · subst hl
      have HL := Lib.hid (show p.rels.length = q.rels.length from HN.out.symm.trans HM.out)
      go_enter Try.func10, Try.ntmps10
      go_wp2_with fail
      refine (HC.out _ HB0.out).mono ?_
      rintro e w1 ⟨rfl, hb⟩
      have HB1 := Lib.hid (base_step HB0.out hb)
      have hb2 : Below (w.heap.size + 2) _ w1 := hb.mono (by simp)
      have HK1 := Lib.hid hb2
      obtain ⟨k0, k1, hlw⟩ := HK.out w1 hb2
      clear hb hb2
      go_wp2
      go_loopw [5] (fun i wr => ∃ k : Nat, k ≤ n ∧ i = .int .i64 k ∧ p.rels.take k = q.rels.take k ∧ Below w.heap.size w wr ∧ Below (w.heap.size + 2) ((w.alloc (.cells #[.int .i64 p.dom.tapes, .int .i64 p.dom.start, va, vn, .slice a n cap] 34)).alloc (.cells #[.int .i64 q.dom.tapes, .int .i64 q.dom.start, ua, un, .slice a' n cap'] 34)) wr) (fun i _ => n - (intOf i).toNat)
      case atStart => exact ⟨0, Nat.zero_le _, rfl, rfl, HB1.out, HK1.out⟩
      case round =>
        obtain ⟨k, hk, rfl, hg, hbel, hkb⟩ := hrel
        have HG := Lib.hid hg
        have HBL := Lib.hid hbel
        have HKB := Lib.hid hkb
        obtain ⟨k0', k1', hlw'⟩ := HK.out wr hkb
        clear hg hbel hkb k0 k1 hlw
        by_cases hlt : k < n
        · obtain rfl := (haa (by omega)).1
          obtain rfl := (hbb (by omega)).1
          have hbA := (haa (by omega)).2
          have hbB := (hbb (by omega)).2
          clear haa hbb
          have h4 := RelPtrAt.below (HA.out k hlt) HBL.out HSB.out (by have := HSB.out; omega)
          have g4 := RelPtrAt.below (HBB.out k hlt) HBL.out HSB.out (by have := HSB.out; omega)
          obtain ⟨x, hx⟩ : ∃ x, x = p.rels.getD k noR := ⟨_, rfl⟩
          obtain ⟨y, hy⟩ : ∃ y, y = q.rels.getD k noR := ⟨_, rfl⟩
          rw [← hx] at h4
          rw [← hy] at g4
          have HX := Lib.hid hx
          have HY := Lib.hid hy
          clear hx hy
          have j0 : (0 : Int) ≤ (k : Int) := Int.natCast_nonneg _
          have j1 : (k : Int) < (n : Int) := by omega
          by_cases he : x = y
          all_goals
            have HE := Lib.hid he
            obtain ⟨ca, cn, c0, c1, c2, c3, hua, hun⟩ := h4
            obtain ⟨da, dn, d0, d1, d2, d3, hva, hvn⟩ := g4
            have HW := Lib.hid (fun W (hb : Below wr.heap.size wr W) => SameRel.specSame (.agg #[.int .i64 x.tapes, .int .i64 x.start, ca, cn]) (.agg #[.int .i64 y.tapes, .int .i64 y.start, da, dn]) x y W B ⟨ca, cn, rfl, hua.below hb (Nat.le_trans HSB.out HBL.out.size), hun.below hb (Nat.le_trans HSB.out HBL.out.size)⟩ ⟨da, dn, rfl, hva.below hb (Nat.le_trans HSB.out HBL.out.size), hvn.below hb (Nat.le_trans HSB.out HBL.out.size)⟩ (Nat.le_trans (Nat.le_trans HSB.out HBL.out.size) hb.size))
            first
              | rw [sameRel_eq he] at HW
              | rw [sameRel_ne he] at HW
            clear he hua hun hva hvn
            have hN : w.heap.size ≤ wr.heap.size := HBL.out.size
            have hN2 : w.heap.size + 2 ≤ wr.heap.size := by omega
            go_wp2
            go_region_with (go_at_call 20; refine (HW.out _ ((Below.refl _ _).drew)).mono ?_; rintro e w2 ⟨rfl, hb⟩; have HB2 := Lib.hid (HBL.out.drew.trans (hb.mono hN)); have HK2 := Lib.hid (HKB.out.drew.trans (hb.mono hN2)); clear hb)
            all_goals go_wp2
            all_goals first
              | (go_roundw
                 case rel => exact ⟨k + 1, by omega, by go_num, same_step p.rels q.rels noR k (by rw [← HN.out]; exact hlt) (by rw [← HM.out]; exact hlt) HG.out (by rw [← HX.out, ← HY.out]; exact HE.out), HB2.out, HK2.out⟩
                 case measure => simp [intOf]; omega)
              | (go_ret
                 exact ⟨by rw [sameP_no2 (same_no p.rels q.rels noR k (by rw [← HX.out, ← HY.out]; exact HE.out))]; rfl, HB2.out⟩)
        · have HE := Lib.hid (sameP_yes HSS.out.symm (same_end p.rels q.rels k (by rw [← HN.out]; omega) HL.out HG.out))
          clear haa hbb
          go_wp2
          go_ret
          exact ⟨by rw [HE.out]; rfl, HBL.out⟩
    · have HE := Lib.hid (sameP_no2 (same_len p.rels q.rels (by rw [← HN.out, ← HM.out]; exact hl)))
      have d1 : ((n : Int) != (m : Int)) = true := by rw [bne_iff_ne]; omega
      clear haa hbb
      go_enter Try.func10, Try.ntmps10
      go_wp2_with fail
      refine (HC.out _ HB0.out).mono ?_
      rintro e w1 ⟨rfl, hb⟩
      have HB1 := Lib.hid (base_step HB0.out hb)
      obtain ⟨k0, k1, hlw⟩ := HK.out w1 (hb.mono (by simp))
      clear hb
      go_wp2
      go_ret
      exact ⟨by rw [HE.out]; rfl, HB1.out⟩

set_option maxHeartbeats 2000000 in
/-- The library's function that compares lists by a function, at relations. -/
theorem libRels (xs ys : List R) (va vb : Value) (w : World) (B : Nat) (ha : Rels w B va xs) (hb : Rels w B vb ys) (hB : B ≤ w.heap.size) :
    Calls Try.prog 22 #[va, vb, .func (.func 21) #[] #[]] w fun e w' => e = .returned (.bool (same xs ys)) ∧ Below w.heap.size w w' := by
  obtain ⟨a, b, off, cap, rfl, hma, haa, hca⟩ := ha
  obtain ⟨a', b', off', cap', rfl, hmb, hbb, hcb⟩ := hb
  unfold maxLen at hma hmb
  by_cases hl : xs.length = ys.length
  · have HL := Lib.hid hl
    obtain ⟨n, hn⟩ : ∃ n, n = xs.length := ⟨_, rfl⟩
    have hn2 : ys.length = n := by omega
    rw [← hn, hn2]
    rw [← hn] at hma hca haa
    rw [hn2] at hcb hbb
    have HN := Lib.hid hn
    have HN2 := Lib.hid hn2
    have HA := Lib.hid hca
    have HBB := Lib.hid hcb
    have HSB := Lib.hid hB
    clear hl hn hn2 hmb hca hcb hB
    go_enter Try.func22, Try.ntmps22
    go_wp2
    go_loopw [17] (fun i wr => ∃ k : Nat, k ≤ n ∧ i = .int .i64 k ∧ xs.take k = ys.take k ∧ Below w.heap.size w wr) (fun i _ => n - (intOf i).toNat)
    case atStart => exact ⟨0, Nat.zero_le _, rfl, rfl, Below.refl _ _⟩
    case round =>
      obtain ⟨k, hk, rfl, hg, hbel⟩ := hrel
      have HG := Lib.hid hg
      have HBL := Lib.hid hbel
      clear hg hbel
      by_cases hlt : k < n
      · obtain rfl := (haa (by omega)).1
        obtain rfl := (hbb (by omega)).1
        have hbA := (haa (by omega)).2
        have hbB := (hbb (by omega)).2
        clear haa hbb
        have h4 := RelPtrAt.below (HA.out k hlt) HBL.out HSB.out (by have := HSB.out; omega)
        have g4 := RelPtrAt.below (HBB.out k hlt) HBL.out HSB.out (by have := HSB.out; omega)
        obtain ⟨x, hx⟩ : ∃ x, x = xs.getD k noR := ⟨_, rfl⟩
        obtain ⟨y, hy⟩ : ∃ y, y = ys.getD k noR := ⟨_, rfl⟩
        rw [← hx] at h4
        rw [← hy] at g4
        have HX := Lib.hid hx
        have HY := Lib.hid hy
        clear hx hy
        obtain ⟨ca, cn, c0, c1, c2, c3, hua, hun⟩ := h4
        obtain ⟨da, dn, d0, d1, d2, d3, hva, hvn⟩ := g4
        obtain ⟨au, nu, cu, rfl⟩ : ∃ a n c, ca = .slice a n c := by obtain ⟨a, b, o, c, e, -⟩ := hua; exact ⟨_, _, _, e⟩
        obtain ⟨av, nv, cv, rfl⟩ : ∃ a n c, cn = .slice a n c := by obtain ⟨U, ⟨a, b, o, c, e, -⟩, -⟩ := hun; exact ⟨_, _, _, e⟩
        obtain ⟨au', nu', cu', rfl⟩ : ∃ a n c, da = .slice a n c := by obtain ⟨a, b, o, c, e, -⟩ := hva; exact ⟨_, _, _, e⟩
        obtain ⟨av', nv', cv', rfl⟩ : ∃ a n c, dn = .slice a n c := by obtain ⟨U, ⟨a, b, o, c, e, -⟩, -⟩ := hvn; exact ⟨_, _, _, e⟩
        have HB2 := Lib.hid (base_box (base_box HBL.out (.cells #[.int .i64 x.tapes, .int .i64 x.start, .slice au nu cu, .slice av nv cv] 31)) (.cells #[.int .i64 y.tapes, .int .i64 y.start, .slice au' nu' cu', .slice av' nv' cv'] 31))
        have HW := Lib.hid (fun W (hb : Below wr.heap.size wr W) => SameRel.implSame (.agg #[.int .i64 x.tapes, .int .i64 x.start, .slice au nu cu, .slice av nv cv]) (.agg #[.int .i64 y.tapes, .int .i64 y.start, .slice au' nu' cu', .slice av' nv' cv']) x y W B ⟨_, _, rfl, hua.below hb (Nat.le_trans HSB.out HBL.out.size), hun.below hb (Nat.le_trans HSB.out HBL.out.size)⟩ ⟨_, _, rfl, hva.below hb (Nat.le_trans HSB.out HBL.out.size), hvn.below hb (Nat.le_trans HSB.out HBL.out.size)⟩ (Nat.le_trans (Nat.le_trans HSB.out HBL.out.size) hb.size))
        clear hua hun hva hvn
        have hbw : b' < wr.heap.size := by have := HSB.out; have := HBL.out.size; omega
        by_cases he : x = y
        all_goals
          have HE := Lib.hid he
          first
            | rw [sameRel_eq he] at HW
            | rw [sameRel_ne he] at HW
          clear he
          go_wp2_with fail
          refine (HW.out _ (base_box (base_box (Below.refl _ _) _) _)).mono ?_
          rintro e w2 ⟨rfl, hb⟩
          have HB3 := Lib.hid (base_step HB2.out hb)
          clear hb
          go_wp2
          first
            | (go_roundw
               case rel => exact ⟨k + 1, by omega, by go_num, same_step xs ys noR k (by rw [← HN.out]; exact hlt) (by rw [HN2.out]; exact hlt) HG.out (by rw [← HX.out, ← HY.out]; exact HE.out), HB3.out⟩
               case measure => simp [intOf]; omega)
            | (go_ret
               exact ⟨by rw [same_no xs ys noR k (by rw [← HX.out, ← HY.out]; exact HE.out)]; rfl, HB3.out⟩)
      · have HE := Lib.hid (same_end xs ys k (by rw [← HN.out]; omega) HL.out HG.out)
        clear haa hbb
        go_wp2
        go_ret
        exact ⟨by rw [HE.out]; rfl, HBL.out⟩
  · have HS := Lib.hid (same_len xs ys hl)
    have h1 : ((xs.length : Int) != (ys.length : Int)) = true := by rw [bne_iff_ne]; omega
    obtain ⟨p, hp⟩ : ∃ p : Nat, p = xs.length := ⟨_, rfl⟩
    obtain ⟨q, hq⟩ : ∃ q : Nat, q = ys.length := ⟨_, rfl⟩
    rw [← hp, ← hq] at h1
    rw [← hp, ← hq]
    clear hca hcb hl hma hmb hp hq haa hbb
    go_enter Try.func22, Try.ntmps22
    go_wp2
    go_ret
    exact ⟨by rw [HS.out]; rfl, Below.refl _ _⟩

set_option maxHeartbeats 2000000 in
theorem implSame (v u : Value) (p q : P) (w : World) (B : Nat) (hp : PrAt w B v p) (hq : PrAt w B u q) (hB : B ≤ w.heap.size) :
    Calls Try.prog 11 #[v, u] w fun e w' => e = .returned (.bool (sameP p q)) ∧ Below w.heap.size w w' := by
  obtain ⟨va, vn, vr, rfl, hacc, hnx, hrl⟩ := hp
  obtain ⟨ua, un, ur, rfl, hacc', hnx', hrl'⟩ := hq
  have HC := Lib.hid (fun W (h : Below w.heap.size w W) => SameRel.implSame (.agg #[.int .i64 p.dom.tapes, .int .i64 p.dom.start, va, vn]) (.agg #[.int .i64 q.dom.tapes, .int .i64 q.dom.start, ua, un]) p.dom q.dom W B ⟨va, vn, rfl, hacc.below h hB, hnx.below h hB⟩ ⟨ua, un, rfl, hacc'.below h hB, hnx'.below h hB⟩ (Nat.le_trans hB h.size))
  have HD := Lib.hid (fun W (h : Below w.heap.size w W) => libRels p.rels q.rels vr ur W B (hrl.below h hB) (hrl'.below h hB) (Nat.le_trans hB h.size))
  have HB0 := Lib.hid (base_box (base_box (Below.refl _ w) (.cells #[.int .i64 p.dom.tapes, .int .i64 p.dom.start, va, vn, vr] 34)) (.cells #[.int .i64 q.dom.tapes, .int .i64 q.dom.start, ua, un, ur] 34))
  have HK1 := Lib.hid (show ((w.alloc (.cells #[.int .i64 p.dom.tapes, .int .i64 p.dom.start, va, vn, vr] 34)).alloc (.cells #[.int .i64 q.dom.tapes, .int .i64 q.dom.start, ua, un, ur] 34)).cell? ⟨w.heap.size, 4, none⟩ = some vr by
    rw [World.cell?_alloc_lt _ _ _ (by simp)]; exact boxed ..)
  have HK2 := Lib.hid (show ((w.alloc (.cells #[.int .i64 p.dom.tapes, .int .i64 p.dom.start, va, vn, vr] 34)).alloc (.cells #[.int .i64 q.dom.tapes, .int .i64 q.dom.start, ua, un, ur] 34)).cell? ⟨w.heap.size + 1, 4, none⟩ = some ur by
    have := boxed (w.alloc (.cells #[.int .i64 p.dom.tapes, .int .i64 p.dom.start, va, vn, vr] 34)) #[.int .i64 q.dom.tapes, .int .i64 q.dom.start, ua, un, ur] 34 4
    rw [World.size_alloc] at this
    exact this)
  obtain ⟨a, ha⟩ : ∃ a, a = sameRel p.dom q.dom := ⟨_, rfl⟩
  obtain ⟨b, hb⟩ : ∃ b, b = same p.rels q.rels := ⟨_, rfl⟩
  have HE := Lib.hid (show sameP p q = (a && b) by simp [sameP, ha, hb])
  rw [← ha] at HC
  rw [← hb] at HD
  clear ha hb hacc hnx hrl hacc' hnx' hrl'
  cases a with
  | false =>
    go_enter Try.func11, Try.ntmps11
    go_wp2_with fail
    refine (HC.out _ HB0.out).mono ?_
    rintro e w1 ⟨rfl, hb⟩
    have HB1 := Lib.hid (base_step HB0.out hb)
    clear hb
    go_wp2
    go_ret
    exact ⟨by rw [HE.out]; rfl, HB1.out⟩
  | true =>
    cases b
    all_goals
      go_enter Try.func11, Try.ntmps11
      go_wp2_with fail
      refine (HC.out _ HB0.out).mono ?_
      rintro e w1 ⟨rfl, hb⟩
      have HB1 := Lib.hid (base_step HB0.out hb)
      have k1 := (hb.cell (p := ⟨w.heap.size, 4, none⟩) (by simp; omega)).trans HK1.out
      have k2 := (hb.cell (p := ⟨w.heap.size + 1, 4, none⟩) (by simp)).trans HK2.out
      have hlw : w.heap.size + 1 < w1.heap.size := by have := hb.size; simp at this; omega
      clear hb
      go_wp2_with fail
      refine (HD.out _ HB1.out).mono ?_
      rintro e w2 ⟨rfl, hb⟩
      have HB2 := Lib.hid (base_step HB1.out hb)
      clear hb
      go_wp2
      go_ret
      exact ⟨by rw [HE.out]; rfl, HB2.out⟩
end Go.Proofs.Ytapiikkbeboidaa.PresSame
