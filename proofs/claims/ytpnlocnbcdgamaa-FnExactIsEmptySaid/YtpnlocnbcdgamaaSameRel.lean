
/- What SameRelation answers, the program's and the model's.
   Conditions: the relations are read as XRel's text says. -/
import Derived.Test.YtpnlocnbcdgamaaSame
namespace Go.Proofs.Ytpnlocnbcdgamaa.SameRel
open Go.RowKit Mem Rel Same

theorem sameRel_no1 {r s : R} (h : ¬ r.tapes = s.tapes) : sameRel r s = false := by simp [sameRel, h]
theorem sameRel_no2 {r s : R} (h : ¬ r.start = s.start) : sameRel r s = false := by simp [sameRel, h]
theorem sameRel_no3 {r s : R} (h : same r.accept s.accept = false) : sameRel r s = false := by simp [sameRel, h]
theorem sameRel_no4 {r s : R} (h : same r.next s.next = false) : sameRel r s = false := by simp [sameRel, h]
theorem sameRel_yes {r s : R} (h1 : r.tapes = s.tapes) (h2 : r.start = s.start) (h3 : same r.accept s.accept = true) (h4 : same r.next s.next = true) : sameRel r s = true := by simp [sameRel, h1, h2, h3, h4]

set_option maxHeartbeats 2000000 in
theorem specSame (v u : Value) (r s : R) (w : World) (B : Nat) (hr : RelAt w B v r) (hs : RelAt w B u s) (hB : B ≤ w.heap.size) :
    Calls Try.prog 28 #[v, u] w fun e w' => e = .returned (.bool (sameRel r s)) ∧ Below w.heap.size w w' := by
  obtain ⟨va, vn, rfl, ha, hn⟩ := hr
  obtain ⟨ua, un, rfl, ha', hn'⟩ := hs
  have hb : Below w.heap.size w ((w.alloc (.cells #[.int .i64 r.tapes, .int .i64 r.start, va, vn] 29)).alloc (.cells #[.int .i64 s.tapes, .int .i64 s.start, ua, un] 29)) := ((Below.refl _ _).alloc (Nat.le_refl _) _).alloc (by simp) _
  have hA := Lib.hid (ha.below hb hB)
  have hA' := Lib.hid (ha'.below hb hB)
  have hN := hn.below hb hB
  have hN' := hn'.below hb hB
  clear ha ha' hn hn'
  obtain ⟨rt, rs, ra, rn⟩ := r
  obtain ⟨st, ss, sa, sn⟩ := s
  simp only at hA hA' hN hN' hb ⊢
  have HB := Lib.hid hb
  clear hb
  by_cases h1 : rt = st
  · by_cases h2 : rs = ss
    · by_cases h3 : same ra sa = true
      · obtain ⟨U, ⟨a, ba, oa, ca, rfl, hma, haa, hca⟩, hU⟩ := hN
        obtain ⟨V, ⟨b, bb, ob, cb, rfl, hmb, hbb, hcb⟩, hV⟩ := hN'
        unfold maxLen at hma hmb
        have H3 := Lib.hid h3
        by_cases h4 : rn.length = sn.length
        · have HL := Lib.hid h4
          obtain ⟨n, hn⟩ : ∃ n, n = rn.length := ⟨_, rfl⟩
          have hn2 : sn.length = n := by omega
          have HN := Lib.hid hn
          have HN2 := Lib.hid hn2
          rw [hn2] at hcb hbb hV hca hU hA hA' HB
          rw [← hn] at hma hca haa hU hcb hV hA hA' HB
          rw [hn2, ← hn]
          subst h1 h2
          clear h3 h4 hn hn2 hmb
          go_enter Try.func28, Try.ntmps28
          go_wp2_with fail
          refine (specBools ra sa va ua _ B hA.out hA'.out).mono ?_
          rw [H3.out]
          rintro e w1 ⟨rfl, m0, rfl⟩
          have HEY := Lib.hid (fun h => sameRel_yes (r := ⟨rt, rs, ra, rn⟩) (s := ⟨rt, rs, sa, sn⟩) rfl rfl H3.out h)
          have HEN := Lib.hid (fun h => sameRel_no4 (r := ⟨rt, rs, ra, rn⟩) (s := ⟨rt, rs, sa, sn⟩) h)
          go_wp2_with fail
          go_loopw [5] (fun i wr => ∃ k m : Nat, k ≤ n ∧ i = .int .i64 k ∧ rn.take k = sn.take k ∧ wr = ((w.alloc (.cells #[.int .i64 rt, .int .i64 rs, va, .slice a n ca] 29)).alloc (.cells #[.int .i64 rt, .int .i64 rs, ua, .slice b n cb] 29)).drewN m) (fun i _ => n - (intOf i).toNat)
          case atStart => exact ⟨0, m0, Nat.zero_le _, rfl, rfl, rfl⟩
          case round =>
            obtain ⟨k, m, hk, rfl, hg, rfl⟩ := hrel
            have HG := Lib.hid hg
            clear hg
            by_cases hlt : k < n
            · obtain rfl := (haa (by omega)).1
              obtain rfl := (hbb (by omega)).1
              clear haa hbb
              have cA := hca k hlt
              have cB := hcb k hlt
              obtain ⟨x, hx⟩ : ∃ x, x = rn.getD k [] := ⟨_, rfl⟩
              obtain ⟨y, hy⟩ : ∃ y, y = sn.getD k [] := ⟨_, rfl⟩
              have uA := hU k hlt
              have uB := hV k hlt
              rw [← hx] at uA
              rw [← hy] at uB
              obtain ⟨p, hp⟩ : ∃ p, p = U k := ⟨_, rfl⟩
              obtain ⟨q, hq⟩ : ∃ q, q = V k := ⟨_, rfl⟩
              rw [← hp] at cA uA
              rw [← hq] at cB uB
              have UA := Lib.hid uA
              have UB := Lib.hid uB
              clear hp hq uA uB hU hV
              by_cases he : x = y
              · have HY := Lib.hid (same_step rn sn [] k (by rw [← HN.out]; exact hlt) (by rw [HN2.out]; exact hlt) HG.out (by rw [← hx, ← hy, he]))
                clear hca hcb hx hy
                subst he
                have HT := Lib.hid (same_self x)
                have HC := Lib.hid (fun z => (HT.out ▸ specInts x x p q (World.drewN _ z) B (Sl.drewN UA.out z) (Sl.drewN UB.out z) : Calls Try.prog 51 #[p, q] (((w.alloc (.cells #[.int .i64 rt, .int .i64 rs, va, .slice (some ⟨ba, oa, none⟩) n ca] 29)).alloc (.cells #[.int .i64 rt, .int .i64 rs, ua, .slice (some ⟨bb, ob, none⟩) n cb] 29)).drewN z) fun e w' => e = .returned (.bool true) ∧ ∃ n, w' = (World.drewN _ z).drewN n))
                go_wp2
                go_quiet ((go_at_call 51; exact quiet_drewN HC.out))
                go_wp2
                go_roundw
                case rel => exact ⟨k + 1, _, by omega, by go_num, HY.out, rfl⟩
                case measure => simp [intOf]; omega
              · have HS := Lib.hid (HEN.out (same_no rn sn [] k (by rw [← hx, ← hy]; exact he)))
                have HT := Lib.hid (show same x y = false by unfold same; simp [he])
                clear hca hcb hx hy
                have HC := Lib.hid (fun z => (HT.out ▸ specInts x y p q (World.drewN _ z) B (Sl.drewN UA.out z) (Sl.drewN UB.out z) : Calls Try.prog 51 #[p, q] (((w.alloc (.cells #[.int .i64 rt, .int .i64 rs, va, .slice (some ⟨ba, oa, none⟩) n ca] 29)).alloc (.cells #[.int .i64 rt, .int .i64 rs, ua, .slice (some ⟨bb, ob, none⟩) n cb] 29)).drewN z) fun e w' => e = .returned (.bool false) ∧ ∃ n, w' = (World.drewN _ z).drewN n))
                go_wp2
                go_quiet ((go_at_call 51; exact quiet_drewN HC.out))
                go_wp2
                go_ret
                exact ⟨by rw [HS.out]; rfl, below_drewN (below_drewN HB.out _) _⟩
            · have HE := Lib.hid (HEY.out (same_end rn sn k (by rw [← HN.out]; omega) HL.out HG.out))
              go_wp2
              go_ret
              exact ⟨by rw [HE.out]; rfl, below_drewN HB.out _⟩
        · have HE := Lib.hid (sameRel_no4 (r := ⟨rt, rs, ra, rn⟩) (s := ⟨st, ss, sa, sn⟩) (same_len rn sn h4))
          have d1 : ((rn.length : Int) != (sn.length : Int)) = true := by rw [bne_iff_ne]; omega
          obtain ⟨p, hp⟩ : ∃ p : Nat, p = rn.length := ⟨_, rfl⟩
          obtain ⟨q, hq⟩ : ∃ q : Nat, q = sn.length := ⟨_, rfl⟩
          rw [← hp, ← hq] at d1
          rw [← hp, ← hq] at hA hA' HB
          rw [← hp, ← hq]
          subst h1 h2
          clear hca hcb h3 h4 hma hmb hp hq haa hbb hU hV
          go_enter Try.func28, Try.ntmps28
          go_wp2_with fail
          refine (specBools ra sa va ua _ B hA.out hA'.out).mono ?_
          rw [H3.out]
          rintro e w1 ⟨rfl, m0, rfl⟩
          go_wp2_with fail
          go_ret
          exact ⟨by rw [HE.out]; rfl, below_drewN HB.out _⟩
      · have h3' : same ra sa = false := by simpa using h3
        have HE := Lib.hid (sameRel_no3 (r := ⟨rt, rs, ra, rn⟩) (s := ⟨st, ss, sa, sn⟩) h3')
        have H3 := Lib.hid h3'
        subst h1 h2
        clear h3 h3' hN hN'
        go_enter Try.func28, Try.ntmps28
        go_wp2_with fail
        refine (specBools ra sa va ua _ B hA.out hA'.out).mono ?_
        rw [H3.out]
        rintro e w1 ⟨rfl, m0, rfl⟩
        go_wp2_with fail
        go_ret
        exact ⟨by rw [HE.out]; rfl, below_drewN HB.out _⟩
    · have HE := Lib.hid (sameRel_no2 (r := ⟨rt, rs, ra, rn⟩) (s := ⟨st, ss, sa, sn⟩) h2)
      have d1 : (rs != ss) = true := by rw [bne_iff_ne]; exact h2
      subst h1
      go_enter Try.func28, Try.ntmps28
      go_wp2
      go_ret
      exact ⟨by rw [HE.out]; rfl, HB.out⟩
  · have HE := Lib.hid (sameRel_no1 (r := ⟨rt, rs, ra, rn⟩) (s := ⟨st, ss, sa, sn⟩) h1)
    have d1 : (rt != st) = true := by rw [bne_iff_ne]; exact h1
    go_enter Try.func28, Try.ntmps28
    go_wp2
    go_ret
    exact ⟨by rw [HE.out]; rfl, HB.out⟩

theorem IntRows_drewN {w : World} {B : Nat} {v : Value} {xss : List (List Int)} (h : IntRows w B v xss) (m : Nat) : IntRows (w.drewN m) B v xss := h

end Go.Proofs.Ytpnlocnbcdgamaa.SameRel
