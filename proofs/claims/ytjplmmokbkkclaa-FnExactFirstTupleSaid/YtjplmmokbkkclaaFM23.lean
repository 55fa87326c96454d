
/- What the model's and the library's functions that compare lists answer.
   Conditions: the lists are read as XMem's text says. -/
import Derived.Test.YtjplmmokbkkclaaFM4
import Derived.Deep.QuietTactic
import Derived.BigQuiet
import Derived.Test.YtjplmmokbkkclaaFM17
import Derived.Test.YtjplmmokbkkclaaFM11
import Derived.Test.YtjplmmokbkkclaaFM22
import Derived.Test.YtjplmmokbkkclaaFM19
import Derived.Test.YtjplmmokbkkclaaFM15
import Derived.Test.YtjplmmokbkkclaaFM13
import Derived.Test.YtjplmmokbkkclaaFM16
import Derived.Test.YtjplmmokbkkclaaFM5
import Derived.Test.YtjplmmokbkkclaaFM6
import Derived.Test.YtjplmmokbkkclaaFM8
namespace Go.Proofs.Ytjplmmokbkkclaa.Same
open Go.RowKit Mem Rel

set_option maxHeartbeats 400000 in
theorem specInts (xs ys : List Int) (va vb : Value) (w : World) (B : Nat) (ha : Ints w B va xs) (hb : Ints w B vb ys) :
    Calls Try.prog 62 #[va, vb] w fun e w' => e = .returned (.bool (same xs ys)) ∧ ∃ n, w' = w.drewN n := by
  obtain ⟨a, ba, oa, ca, rfl, hma, haa, hca⟩ := ha
  obtain ⟨b, bb, ob, cb, rfl, hmb, hbb, hcb⟩ := hb
  unfold maxLen at hma hmb
  by_cases hl : xs.length = ys.length
  · have HL := Lib.hid hl
    obtain ⟨n, hn⟩ : ∃ n, n = xs.length := ⟨_, rfl⟩
    have hn2 : ys.length = n := by omega
    rw [← hn, hn2]
    rw [← hn] at hma hca haa
    rw [hn2] at hcb hbb
    have HN := Lib.hid hn
    have HN2 := Lib.hid hn2
    clear hl hn hn2 hmb
    go_enter Try.func62, Try.ntmps62
    go_wp2
    go_loopw [5] (fun i wr => ∃ k m : Nat, k ≤ n ∧ i = .int .i64 k ∧ xs.take k = ys.take k ∧ wr = w.drewN m) (fun i _ => n - (intOf i).toNat)
    case atStart => exact ⟨0, 0, Nat.zero_le _, rfl, rfl, rfl⟩
    case round =>
      obtain ⟨k, m, hk, rfl, hg, rfl⟩ := hrel
      have HG := Lib.hid hg
      clear hg
      by_cases hlt : k < n
      · obtain rfl := (haa (by omega)).1
        obtain rfl := (hbb (by omega)).1
        clear haa hbb
        have cA := hca k hlt
        have cB := hcb k hlt
        obtain ⟨x, hx⟩ : ∃ x, x = xs.getD k 0 := ⟨_, rfl⟩
        obtain ⟨y, hy⟩ : ∃ y, y = ys.getD k 0 := ⟨_, rfl⟩
        rw [← hx] at cA
        rw [← hy] at cB
        by_cases he : x = y
        · have HY := Lib.hid (same_step xs ys 0 k (by rw [← HN.out]; exact hlt) (by rw [HN2.out]; exact hlt) HG.out (by rw [← hx, ← hy, he]))
          have ht : (x != y) = false := by simp [he]
          clear hca hcb hx hy
          subst he
          clear ht
          go_wp2
          go_quiet (fail)
          go_wp2
          go_roundw
          case rel => exact ⟨k + 1, _, by omega, by go_num, HY.out, rfl⟩
          case measure => simp [intOf]; omega
        · have HS := Lib.hid (same_no xs ys 0 k (by rw [← hx, ← hy]; exact he))
          have ht : (x != y) = true := by rw [bne_iff_ne]; exact he
          clear hca hcb hx hy
          go_wp2
          go_quiet (fail)
          go_wp2
          go_ret
          exact ⟨by rw [HS.out]; rfl, _, World.drewN_drewN ..⟩
      · have HE := Lib.hid (same_end xs ys k (by rw [← HN.out]; omega) HL.out HG.out)
        go_wp2
        go_ret
        exact ⟨by rw [HE.out]; rfl, _, rfl⟩
  · have HS := Lib.hid (same_len xs ys hl)
    have h1 : ((xs.length : Int) != (ys.length : Int)) = true := by rw [bne_iff_ne]; omega
    obtain ⟨p, hp⟩ : ∃ p : Nat, p = xs.length := ⟨_, rfl⟩
    obtain ⟨q, hq⟩ : ∃ q : Nat, q = ys.length := ⟨_, rfl⟩
    rw [← hp, ← hq] at h1
    rw [← hp, ← hq]
    clear hca hcb hl hma hmb hp hq haa hbb
    go_enter Try.func62, Try.ntmps62
    go_wp2
    go_ret
    exact ⟨by rw [HS.out]; rfl, 0, rfl⟩
set_option maxHeartbeats 400000 in
theorem specBools (xs ys : List Bool) (va vb : Value) (w : World) (B : Nat) (ha : Bools w B va xs) (hb : Bools w B vb ys) :
    Calls Try.prog 61 #[va, vb] w fun e w' => e = .returned (.bool (same xs ys)) ∧ ∃ n, w' = w.drewN n := by
  obtain ⟨a, ba, oa, ca, rfl, hma, haa, hca⟩ := ha
  obtain ⟨b, bb, ob, cb, rfl, hmb, hbb, hcb⟩ := hb
  unfold maxLen at hma hmb
  by_cases hl : xs.length = ys.length
  · have HL := Lib.hid hl
    obtain ⟨n, hn⟩ : ∃ n, n = xs.length := ⟨_, rfl⟩
    have hn2 : ys.length = n := by omega
    rw [← hn, hn2]
    rw [← hn] at hma hca haa
    rw [hn2] at hcb hbb
    have HN := Lib.hid hn
    have HN2 := Lib.hid hn2
    clear hl hn hn2 hmb
    go_enter Try.func61, Try.ntmps61
    go_wp2
    go_loopw [5] (fun i wr => ∃ k m : Nat, k ≤ n ∧ i = .int .i64 k ∧ xs.take k = ys.take k ∧ wr = w.drewN m) (fun i _ => n - (intOf i).toNat)
    case atStart => exact ⟨0, 0, Nat.zero_le _, rfl, rfl, rfl⟩
    case round =>
      obtain ⟨k, m, hk, rfl, hg, rfl⟩ := hrel
      have HG := Lib.hid hg
      clear hg
      by_cases hlt : k < n
      · obtain rfl := (haa (by omega)).1
        obtain rfl := (hbb (by omega)).1
        clear haa hbb
        have cA := hca k hlt
        have cB := hcb k hlt
        obtain ⟨x, hx⟩ : ∃ x, x = xs.getD k false := ⟨_, rfl⟩
        obtain ⟨y, hy⟩ : ∃ y, y = ys.getD k false := ⟨_, rfl⟩
        rw [← hx] at cA
        rw [← hy] at cB
        by_cases he : x = y
        · have HY := Lib.hid (same_step xs ys false k (by rw [← HN.out]; exact hlt) (by rw [HN2.out]; exact hlt) HG.out (by rw [← hx, ← hy, he]))
          clear hca hcb hx hy
          subst he
          have ht : (x != x) = false := by simp
          go_wp2
          go_quiet (fail)
          go_wp2
          go_roundw
          case rel => exact ⟨k + 1, _, by omega, by go_num, HY.out, rfl⟩
          case measure => simp [intOf]; omega
        · have HS := Lib.hid (same_no xs ys false k (by rw [← hx, ← hy]; exact he))
          have ht : (x == y) = false := by simpa using he
          clear hca hcb hx hy
          go_wp2
          go_quiet (fail)
          go_wp2
          go_ret
          exact ⟨by rw [HS.out]; rfl, _, World.drewN_drewN ..⟩
      · have HE := Lib.hid (same_end xs ys k (by rw [← HN.out]; omega) HL.out HG.out)
        go_wp2
        go_ret
        exact ⟨by rw [HE.out]; rfl, _, rfl⟩
  · have HS := Lib.hid (same_len xs ys hl)
    have h1 : ((xs.length : Int) != (ys.length : Int)) = true := by rw [bne_iff_ne]; omega
    obtain ⟨p, hp⟩ : ∃ p : Nat, p = xs.length := ⟨_, rfl⟩
    obtain ⟨q, hq⟩ : ∃ q : Nat, q = ys.length := ⟨_, rfl⟩
    rw [← hp, ← hq] at h1
    rw [← hp, ← hq]
    clear hca hcb hl hma hmb hp hq haa hbb
    go_enter Try.func61, Try.ntmps61
    go_wp2
    go_ret
    exact ⟨by rw [HS.out]; rfl, 0, rfl⟩
end Go.Proofs.Ytjplmmokbkkclaa.Same
/- What SameRelation answers, the program's and the model's.
   Conditions: the relations are read as XRel's text says. -/
namespace Go.Proofs.Ytjplmmokbkkclaa.SameRel
open Go.RowKit Mem Rel Same

theorem sameRel_no1 {r s : R} (h : ¬ r.tapes = s.tapes) : sameRel r s = false := by simp [sameRel, h]
theorem sameRel_no2 {r s : R} (h : ¬ r.start = s.start) : sameRel r s = false := by simp [sameRel, h]
theorem sameRel_no3 {r s : R} (h : same r.accept s.accept = false) : sameRel r s = false := by simp [sameRel, h]
theorem sameRel_no4 {r s : R} (h : same r.next s.next = false) : sameRel r s = false := by simp [sameRel, h]
theorem sameRel_yes {r s : R} (h1 : r.tapes = s.tapes) (h2 : r.start = s.start) (h3 : same r.accept s.accept = true) (h4 : same r.next s.next = true) : sameRel r s = true := by simp [sameRel, h1, h2, h3, h4]

set_option maxHeartbeats 2000000 in
theorem specSame (v u : Value) (r s : R) (w : World) (B : Nat) (hr : RelAt w B v r) (hs : RelAt w B u s) (hB : B ≤ w.heap.size) :
    Calls Try.prog 44 #[v, u] w fun e w' => e = .returned (.bool (sameRel r s)) ∧ Below w.heap.size w w' := by
  obtain ⟨va, vn, rfl, ha, hn⟩ := hr
  obtain ⟨ua, un, rfl, ha', hn'⟩ := hs
  have hb : Below w.heap.size w ((w.alloc (.cells #[.int .i64 r.tapes, .int .i64 r.start, va, vn] 30)).alloc (.cells #[.int .i64 s.tapes, .int .i64 s.start, ua, un] 30)) := ((Below.refl _ _).alloc (Nat.le_refl _) _).alloc (by simp) _
  have hA := Lib.hid (ha.below hb hB)
  have hA' := Lib.hid (ha'.below hb hB)
  have hN := hn.below hb hB
  have hN' := hn'.below hb hB
  clear ha ha' hn hn'
  obtain ⟨rt, rs, ra, rn⟩ := r
  obtain ⟨st, ss, sa, sn⟩ := s
  simp only at hA hA' hN hN' hb ⊢
  have HB := Lib.hid hb
  clear hb
  by_cases h1 : rt = st
  · by_cases h2 : rs = ss
    · by_cases h3 : same ra sa = true
      · obtain ⟨U, ⟨a, ba, oa, ca, rfl, hma, haa, hca⟩, hU⟩ := hN
        obtain ⟨V, ⟨b, bb, ob, cb, rfl, hmb, hbb, hcb⟩, hV⟩ := hN'
        unfold maxLen at hma hmb
        have H3 := Lib.hid h3
        by_cases h4 : rn.length = sn.length
        · have HL := Lib.hid h4
          obtain ⟨n, hn⟩ : ∃ n, n = rn.length := ⟨_, rfl⟩
          have hn2 : sn.length = n := by omega
          have HN := Lib.hid hn
          have HN2 := Lib.hid hn2
          rw [hn2] at hcb hbb hV hca hU hA hA' HB
          rw [← hn] at hma hca haa hU hcb hV hA hA' HB
          rw [hn2, ← hn]
          subst h1 h2
          clear h3 h4 hn hn2 hmb
          go_enter Try.func44, Try.ntmps44
          go_wp2_with fail
          refine (specBools ra sa va ua _ B hA.out hA'.out).mono ?_
          rw [H3.out]
          rintro e w1 ⟨rfl, m0, rfl⟩
          have HEY := Lib.hid (fun h => sameRel_yes (r := ⟨rt, rs, ra, rn⟩) (s := ⟨rt, rs, sa, sn⟩) rfl rfl H3.out h)
          have HEN := Lib.hid (fun h => sameRel_no4 (r := ⟨rt, rs, ra, rn⟩) (s := ⟨rt, rs, sa, sn⟩) h)
          go_wp2_with fail
          go_loopw [5] (fun i wr => ∃ k m : Nat, k ≤ n ∧ i = .int .i64 k ∧ rn.take k = sn.take k ∧ wr = ((w.alloc (.cells #[.int .i64 rt, .int .i64 rs, va, .slice a n ca] 30)).alloc (.cells #[.int .i64 rt, .int .i64 rs, ua, .slice b n cb] 30)).drewN m) (fun i _ => n - (intOf i).toNat)
          case atStart => exact ⟨0, m0, Nat.zero_le _, rfl, rfl, rfl⟩
          case round =>
            obtain ⟨k, m, hk, rfl, hg, rfl⟩ := hrel
            have HG := Lib.hid hg
            clear hg
            by_cases hlt : k < n
            · obtain rfl := (haa (by omega)).1
              obtain rfl := (hbb (by omega)).1
              clear haa hbb
              have cA := hca k hlt
              have cB := hcb k hlt
              obtain ⟨x, hx⟩ : ∃ x, x = rn.getD k [] := ⟨_, rfl⟩
              obtain ⟨y, hy⟩ : ∃ y, y = sn.getD k [] := ⟨_, rfl⟩
              have uA := hU k hlt
              have uB := hV k hlt
              rw [← hx] at uA
              rw [← hy] at uB
              obtain ⟨p, hp⟩ : ∃ p, p = U k := ⟨_, rfl⟩
              obtain ⟨q, hq⟩ : ∃ q, q = V k := ⟨_, rfl⟩
              rw [← hp] at cA uA
              rw [← hq] at cB uB
              have UA := Lib.hid uA
              have UB := Lib.hid uB
              clear hp hq uA uB hU hV
              by_cases he : x = y
              · have HY := Lib.hid (same_step rn sn [] k (by rw [← HN.out]; exact hlt) (by rw [HN2.out]; exact hlt) HG.out (by rw [← hx, ← hy, he]))
                clear hca hcb hx hy
                subst he
                have HT := Lib.hid (same_self x)
                have HC := Lib.hid (fun z => (HT.out ▸ specInts x x p q (World.drewN _ z) B (Sl.drewN UA.out z) (Sl.drewN UB.out z) : Calls Try.prog 62 #[p, q] (((w.alloc (.cells #[.int .i64 rt, .int .i64 rs, va, .slice (some ⟨ba, oa, none⟩) n ca] 30)).alloc (.cells #[.int .i64 rt, .int .i64 rs, ua, .slice (some ⟨bb, ob, none⟩) n cb] 30)).drewN z) fun e w' => e = .returned (.bool true) ∧ ∃ n, w' = (World.drewN _ z).drewN n))
                go_wp2
                go_quiet ((go_at_call 62; exact quiet_drewN HC.out))
                go_wp2
                go_roundw
                case rel => exact ⟨k + 1, _, by omega, by go_num, HY.out, rfl⟩
                case measure => simp [intOf]; omega
              · have HS := Lib.hid (HEN.out (same_no rn sn [] k (by rw [← hx, ← hy]; exact he)))
                have HT := Lib.hid (show same x y = false by unfold same; simp [he])
                clear hca hcb hx hy
                have HC := Lib.hid (fun z => (HT.out ▸ specInts x y p q (World.drewN _ z) B (Sl.drewN UA.out z) (Sl.drewN UB.out z) : Calls Try.prog 62 #[p, q] (((w.alloc (.cells #[.int .i64 rt, .int .i64 rs, va, .slice (some ⟨ba, oa, none⟩) n ca] 30)).alloc (.cells #[.int .i64 rt, .int .i64 rs, ua, .slice (some ⟨bb, ob, none⟩) n cb] 30)).drewN z) fun e w' => e = .returned (.bool false) ∧ ∃ n, w' = (World.drewN _ z).drewN n))
                go_wp2
                go_quiet ((go_at_call 62; exact quiet_drewN HC.out))
                go_wp2
                go_ret
                exact ⟨by rw [HS.out]; rfl, below_drewN (below_drewN HB.out _) _⟩
            · have HE := Lib.hid (HEY.out (same_end rn sn k (by rw [← HN.out]; omega) HL.out HG.out))
              go_wp2
              go_ret
              exact ⟨by rw [HE.out]; rfl, below_drewN HB.out _⟩
        · have HE := Lib.hid (sameRel_no4 (r := ⟨rt, rs, ra, rn⟩) (s := ⟨st, ss, sa, sn⟩) (same_len rn sn h4))
          have d1 : ((rn.length : Int) != (sn.length : Int)) = true := by rw [bne_iff_ne]; omega
          obtain ⟨p, hp⟩ : ∃ p : Nat, p = rn.length := ⟨_, rfl⟩
          obtain ⟨q, hq⟩ : ∃ q : Nat, q = sn.length := ⟨_, rfl⟩
          rw [← hp, ← hq] at d1
          rw [← hp, ← hq] at hA hA' HB
          rw [← hp, ← hq]
          subst h1 h2
          clear hca hcb h3 h4 hma hmb hp hq haa hbb hU hV
          go_enter Try.func44, Try.ntmps44
          go_wp2_with fail
          refine (specBools ra sa va ua _ B hA.out hA'.out).mono ?_
          rw [H3.out]
          rintro e w1 ⟨rfl, m0, rfl⟩
          go_wp2_with fail
          go_ret
          exact ⟨by rw [HE.out]; rfl, below_drewN HB.out _⟩
      · have h3' : same ra sa = false := by simpa using h3
        have HE := Lib.hid (sameRel_no3 (r := ⟨rt, rs, ra, rn⟩) (s := ⟨st, ss, sa, sn⟩) h3')
        have H3 := Lib.hid h3'
        subst h1 h2
        clear h3 h3' hN hN'
        go_enter Try.func44, Try.ntmps44
        go_wp2_with fail
        refine (specBools ra sa va ua _ B hA.out hA'.out).mono ?_
        rw [H3.out]
        rintro e w1 ⟨rfl, m0, rfl⟩
        go_wp2_with fail
        go_ret
        exact ⟨by rw [HE.out]; rfl, below_drewN HB.out _⟩
    · have HE := Lib.hid (sameRel_no2 (r := ⟨rt, rs, ra, rn⟩) (s := ⟨st, ss, sa, sn⟩) h2)
      have d1 : (rs != ss) = true := by rw [bne_iff_ne]; exact h2
      subst h1
      go_enter Try.func44, Try.ntmps44
      go_wp2
      go_ret
      exact ⟨by rw [HE.out]; rfl, HB.out⟩
  · have HE := Lib.hid (sameRel_no1 (r := ⟨rt, rs, ra, rn⟩) (s := ⟨st, ss, sa, sn⟩) h1)
    have d1 : (rt != st) = true := by rw [bne_iff_ne]; exact h1
    go_enter Try.func44, Try.ntmps44
    go_wp2
    go_ret
    exact ⟨by rw [HE.out]; rfl, HB.out⟩

theorem IntRows_drewN {w : World} {B : Nat} {v : Value} {xss : List (List Int)} (h : IntRows w B v xss) (m : Nat) : IntRows (w.drewN m) B v xss := h

end Go.Proofs.Ytjplmmokbkkclaa.SameRel
/- What the model answers that is asked whether two relations are equal.
   Conditions: the relations are read as XMem's text says. -/
namespace Go.Proofs.Ytjplmmokbkkclaa.EqS
set_option linter.unusedVariables false
set_option linter.unusedSimpArgs false
set_option linter.ambiguousOpen false
set_option maxRecDepth 100000
open Go.RowKit Mem Copy Rel Valid Heap Columns Bld ToL TidyMath TidyClass TidyAuto TidyRight SpecFiner SpecRight SpecTidied First FirstTidy FirstW SameRel Alike EqI

/-- An argument's box is a relation behind a pointer. -/
theorem box_ptr {w W : World} {B b : Nat} {va vn : Value} {r : R} (h : RelAt w B (.agg #[.int .i64 r.tapes, .int .i64 r.start, va, vn]) r) (hB : B ≤ w.heap.size) (hb : Below w.heap.size w W) (hx : W.heap[b]? = some (.cells #[.int .i64 r.tapes, .int .i64 r.start, va, vn] 30 (0, 0))) : RelPtr W W.heap.size b r := by
  obtain ⟨va', vn', e, ha, hn⟩ := h
  simp at e
  obtain ⟨rfl, rfl⟩ := e
  have y0 := cells_get hx 0
  have y1 := cells_get hx 1
  have y2 := cells_get hx 2
  have y3 := cells_get hx 3
  simp at y0 y1 y2 y3
  exact ⟨_, _, y0, y1, y2, y3, (ha.below hb hB).mono (Nat.le_trans hB hb.size), (hn.below hb hB).mono (Nat.le_trans hB hb.size)⟩

theorem same_iff (l m : L) (hl : l.Ok) (hm : m.Ok) (hk : l.k = m.k) : sameRel ⟨l.k, 0, tidyAcc l, tidyNext l⟩ ⟨m.k, 0, tidyAcc m, tidyNext m⟩ = !(firstPP ne2 l m).isSome := by
  have h1 := tidy_iff hl hm hk
  by_cases he : tidyAcc l = tidyAcc m ∧ tidyNext l = tidyNext m
  · have hn : firstPP ne2 l m = none := firstPP_none fun p hp hg => by rw [h1.1 he p hp] at hg; simp [ne2] at hg
    rw [hn]
    simp [sameRel, same, he.1, he.2, hk]
  · have hs : ∃ p, Low (wide l.k) p ∧ ne2 (Tk l p) (Tk m p) = true := by
      apply Classical.byContradiction
      intro hno
      refine he (h1.2 fun p hp => ?_)
      apply Classical.byContradiction
      intro hne
      exact hno ⟨p, hp, by simp [ne2]; exact hne⟩
    obtain ⟨p, hp, hg⟩ := hs
    obtain ⟨u, hu⟩ := least_of (wide l.k) (fun p => ne2 (Tk l p) (Tk m p) = true) p hp hg
    rw [firstPP_some hu]
    have : ¬ (tidyAcc l = tidyAcc m) ∨ ¬ (tidyNext l = tidyNext m) := by
      by_cases ha : tidyAcc l = tidyAcc m
      · exact .inr fun hn => he ⟨ha, hn⟩
      · exact .inl ha
    rcases this with h | h <;> simp [sameRel, same, h]
where
  least_of (k : Nat) (P : List Nat → Prop) (p : List Nat) (hp : Low k p) (h : P p) : ∃ u, First.Lst k P u := by
    have : ∀ n, ∀ p, Low k p → P p → nm k p ≤ n → ∃ u, First.Lst k P u := by
      intro n
      induction n with
      | zero => exact fun p hp h hn => ⟨p, hp, h, fun v _ hl => by omega⟩
      | succ n ih =>
        intro p hp h hn
        by_cases hex : ∃ v, Low k v ∧ nm k v < nm k p ∧ P v
        · obtain ⟨v, hv, hl, hP⟩ := hex
          exact ih v hv hP (by omega)
        · exact ⟨p, hp, h, fun v hv hl hP => hex ⟨v, hv, hl, hP⟩⟩
    exact this _ p hp h (Nat.le_refl _)

set_option maxHeartbeats 8000000 in
theorem specEqual (v u : Value) (r s : R) (w : World) (B : Nat) (h : RelAt w B v r) (h' : RelAt w B u s) (hB : B ≤ w.heap.size) :
    Calls Try.prog 21 #[v, u] w fun e w' => e = .returned (.tuple #[.bool (eqV r s), .int .i64 (alikeC r s)]) ∧ Below w.heap.size w w' := by
  have hR := h
  have hS := h'
  obtain ⟨va, vn, rfl, ha, hn⟩ := h
  obtain ⟨aa1, ba, oa, ca1, rfl, -, -, -⟩ := ha
  obtain ⟨-, ⟨ab1, bb, ob, cb1, rfl, -, -, -⟩, -⟩ := hn
  obtain ⟨va, vn, rfl, ha, hn⟩ := h'
  obtain ⟨aa2, ba, oa, ca2, rfl, -, -, -⟩ := ha
  obtain ⟨-, ⟨ab2, bb, ob, cb2, rfl, -, -, -⟩, -⟩ := hn
  obtain ⟨c, hc⟩ : ∃ c : Array Value, c = #[.int .i64 r.tapes, .int .i64 r.start, .slice aa1 r.accept.length ca1, .slice ab1 r.next.length cb1] := ⟨_, rfl⟩
  obtain ⟨d, hd⟩ : ∃ d : Array Value, d = #[.int .i64 s.tapes, .int .i64 s.start, .slice aa2 s.accept.length ca2, .slice ab2 s.next.length cb2] := ⟨_, rfl⟩
  have HP1 := Lib.hid (fun W (hk : K2 w c d W) => box_ptr hR hB (K2.base hk) (by rw [← hc]; exact K2.box1 hk))
  have HP2 := Lib.hid (fun W (hk : K2 w c d W) => box_ptr hS hB (K2.base hk) (by rw [← hd]; exact K2.box2 hk))
  have HTW := Lib.hid (fun W (hk : K2 w c d W) => twoS r s w.heap.size (w.heap.size + 1) W W.heap.size (HP1.out W hk) (HP2.out W hk))
  have HTI := Lib.hid (fun (h0 : alikeC r s = 0) => (show ((toL r).Ok ∧ relOf (toL r) = r ∧ (toL r).acc.length ≤ 150) ∧ ((toL s).Ok ∧ relOf (toL s) = s ∧ (toL s).acc.length ≤ 150) ∧ (toL r).k = (toL s).k from by
    obtain ⟨h1, h2, h3⟩ := alike_of h0
    have e1 := okL' h1
    have e2 := okL' h2
    exact ⟨⟨e1.1.2, e1.1.1, e1.2⟩, ⟨e2.1.2, e2.1.1, e2.2⟩, by show r.tapes.toNat = s.tapes.toNat; rw [h3]⟩))
  have HT1 := Lib.hid (fun (h0 : alikeC r s = 0) W (hk : K2 w c d W) => tidied (toL r) (HTI.out h0).1.1 w.heap.size W W.heap.size (by rw [(HTI.out h0).1.2.1]; exact HP1.out W hk) (Nat.le_refl _) (by have := K2.size hk; omega) (by have := (HTI.out h0).1.2.2; omega))
  have HT2 := Lib.hid (fun (h0 : alikeC r s = 0) W (hk : K2 w c d W) => tidied (toL s) (HTI.out h0).2.1.1 (w.heap.size + 1) W W.heap.size (by rw [(HTI.out h0).2.1.2.1]; exact HP2.out W hk) (Nat.le_refl _) (by have := K2.size hk; omega) (by have := (HTI.out h0).2.1.2.2; omega))
  have HV0 := Lib.hid (show alikeC r s ≠ 0 → eqV r s = false from fun h0 => by unfold eqV; rw [decide_eq_false h0]; rfl)
  have HV1 := Lib.hid (show alikeC r s = 0 → sameRel ⟨(toL r).k, 0, tidyAcc (toL r), tidyNext (toL r)⟩ ⟨(toL s).k, 0, tidyAcc (toL s), tidyNext (toL s)⟩ = eqV r s from fun h0 => by
    obtain ⟨h1, h2, h3⟩ := HTI.out h0
    rw [same_iff _ _ h1.1 h2.1 h3]
    unfold eqV apartB
    rw [decide_eq_true h0, Bool.true_and])
  obtain ⟨V, hV⟩ : ∃ x, x = eqV r s := ⟨_, rfl⟩
  obtain ⟨C, hC⟩ : ∃ x, x = alikeC r s := ⟨_, rfl⟩
  rw [← hC] at HTW HT1 HT2 HV0 HV1
  rw [← hV] at HV0 HV1
  rw [← hV, ← hC]
  obtain ⟨k1, hk1⟩ : ∃ x : Int, x = (toL r).k := ⟨_, rfl⟩
  obtain ⟨k2, hk2⟩ : ∃ x : Int, x = (toL s).k := ⟨_, rfl⟩
  obtain ⟨A1, hA1⟩ : ∃ x, x = tidyAcc (toL r) := ⟨_, rfl⟩
  obtain ⟨A2, hA2⟩ : ∃ x, x = tidyAcc (toL s) := ⟨_, rfl⟩
  obtain ⟨N1, hN1⟩ : ∃ x, x = tidyNext (toL r) := ⟨_, rfl⟩
  obtain ⟨N2, hN2⟩ : ∃ x, x = tidyNext (toL s) := ⟨_, rfl⟩
  rw [← hk1, ← hA1, ← hN1] at HT1
  rw [← hk2, ← hA2, ← hN2] at HT2
  rw [← hk1, ← hk2, ← hA1, ← hA2, ← hN1, ← hN2] at HV1
  clear hV hC hk1 hk2 hA1 hA2 hN1 hN2 hR hS HTI HP1 HP2 hB
  have HK0 := Lib.hid (show K2 w c d ((w.alloc (.cells c 30)).alloc (.cells d 30)) from Below.refl _ _)
  have HC0 := Lib.hid (HTW.out _ HK0.out)
  rw [hc, hd] at HC0
  go_enter Try.func21, Try.ntmps21
  go_wp2_with fail
  refine HC0.out.mono ?_
  rw [← hc, ← hd]
  rintro e w3 ⟨rfl, q, rfl⟩
  have HK3 := Lib.hid (show K2 w c d (((w.alloc (.cells c 30)).alloc (.cells d 30)).drewN q) from below_drewN (Below.refl _ _) q)
  generalize ((w.alloc (.cells c 30)).alloc (.cells d 30)).drewN q = w3 at HK3 ⊢
  clear HC0 HK0 HTW hc hd
  by_cases h0 : C = 0
  · have HC1 := Lib.hid (HT1.out h0 w3 HK3.out)
    have HCT := Lib.hid (HT2.out h0)
    have HVE := Lib.hid (HV1.out h0)
    subst h0
    clear HT1 HT2 HV0 HV1
    go_wp2_with fail
    refine HC1.out.mono ?_
    rintro e w4 ⟨va4, vn4, rfl, hbu, hb4⟩
    have HK4 := Lib.hid (show K2 w c d w4 from Below.trans HK3.out (hb4.mono (K2.size HK3.out)))
    have HC2 := Lib.hid (HCT.out w4 HK4.out)
    have HB4 := Lib.hid hbu
    clear hbu hb4 HC1 HCT
    go_wp2_with fail
    refine HC2.out.mono ?_
    rintro e w5 ⟨va5, vn5, rfl, hbu, hb5⟩
    have HK5 := Lib.hid (show K2 w c d w5 from Below.trans HK4.out (hb5.mono (K2.size HK4.out)))
    have HSA := Lib.hid (specSame _ _ ⟨k1, 0, A1, N1⟩ ⟨k2, 0, A2, N2⟩ w5 w5.heap.size ((HB4.out.below hb5).reads w5.heap.size (Nat.le_refl _) k1 0) (hbu.reads w5.heap.size (Nat.le_refl _) k2 0) (Nat.le_refl _))
    rw [HVE.out] at HSA
    clear hbu hb5 HC2
    go_wp2_with fail
    refine HSA.out.mono ?_
    rintro e w6 ⟨rfl, hb6⟩
    have HB6 := Lib.hid ((K2.base HK5.out).trans (hb6.mono (K2.base HK5.out).size))
    clear hb6
    go_wp2_with fail
    go_ret2
    exact ⟨rfl, HB6.out⟩
  · obtain rfl := HV0.out h0
    clear HT1 HT2 HV0 HV1
    have hcne : (C != 0) = true := by simpa using h0
    go_wp2_with fail
    go_ret2
    exact ⟨rfl, K2.base HK3.out⟩
end Go.Proofs.Ytjplmmokbkkclaa.EqS
/- Whether a relation has no tuples: what is asked.
   Conditions: stated at each theorem. -/
namespace Go.Proofs.Ytjplmmokbkkclaa.EmptyK
set_option linter.unusedVariables false
set_option linter.unusedSimpArgs false
set_option linter.ambiguousOpen false
set_option maxRecDepth 100000
open Go.RowKit Mem Copy Rel Valid Heap Columns Bld ToL TidyMath TidyClass TidyAuto TidyRight SpecFiner SpecRight PairMath First FirstTidy FirstI FirstK Alike EqI

noncomputable def emptyV (r : R) : Bool := okB r && !(firstX (tidL (toL r))).isSome
def emptyC (r : R) : Int := if okB r = true then 0 else 1
/-- The relation without tuples. -/
def noL (k : Nat) : L := ⟨k, 0, [false], [List.replicate (wide k) 0]⟩
theorem noL_ok {k : Nat} (h1 : 1 ≤ k) (h3 : k ≤ 3) : okB (relOf (noL k)) = true ∧ toL (relOf (noL k)) = noL k := by
  have : k = 1 ∨ k = 2 ∨ k = 3 := by omega
  rcases this with rfl | rfl | rfl
  all_goals exact ⟨by decide, rfl⟩
theorem r_k {r : R} (h : okB r = true) : ∃ k : Nat, r.tapes = (k : Int) ∧ 1 ≤ k ∧ k ≤ 3 ∧ (toL r).k = k := by
  have e := (okL' h).1
  refine ⟨(toL r).k, ?_, e.2.k0, e.2.k3, rfl⟩
  have := congrArg R.tapes e.1
  exact this.symm
theorem eq_no {r : R} {k : Nat} (h : okB r = true) (hk : r.tapes = (k : Int)) (h1 : 1 ≤ k) (h3 : k ≤ 3) : alikeC r (relOf (noL k)) = 0 ∧ eqV r (relOf (noL k)) = emptyV r := by
  obtain ⟨n1, n2⟩ := noL_ok h1 h3
  have h0 : alikeC r (relOf (noL k)) = 0 := by
    unfold alikeC
    rw [if_pos h, if_pos n1, if_pos (show r.tapes = (relOf (noL k)).tapes from hk)]
  refine ⟨h0, ?_⟩
  have e := (okL' h).1
  have en := (okL' n1).1.2
  rw [n2] at en
  have hkl : (toL r).k = (noL k).k := by show r.tapes.toNat = k; rw [hk]; rfl
  have hx : firstX (tidL (toL r)) = firstPP ne2 (toL r) (noL k) := by
    refine firstX_congr rfl fun p hp => ?_
    rw [none_takes en (fun b hb => by
      have : b ∈ [false] := hb
      simpa using this) p (by rw [← hkl]; exact hp)]
    show Tk (toL r) p = _
    unfold ne2
    cases Tk (toL r) p <;> rfl
  unfold eqV emptyV apartB
  rw [decide_eq_true h0, h, n2, hx]
end Go.Proofs.Ytjplmmokbkkclaa.EmptyK
/- Whether columns are right, and the words that they spell, as the program has them.
   Conditions: one to three tapes, and columns of theirs. -/
namespace Go.Proofs.Ytjplmmokbkkclaa.ImplWords
set_option linter.unusedVariables false
open Go.RowKit Mem Copy Rel Heap Columns ColMath TupMath Numbers TidyRight Pads RightMath

theorem endedAt_lt {n : Nat} {cs : List Nat} (h1 : 1 ≤ n) (h3 : n ≤ 3) (hc : ∀ i, i < cs.length → cs.getD i 0 < wide n) {i : Nat} (hi : i ≤ cs.length) : endedAt n cs i < 8 := by
  unfold endedAt
  by_cases e : i = 0
  · rw [if_pos e]; omega
  · rw [if_neg e]
    have h := hc (i - 1) (by omega)
    have h26 : wide n ≤ 26 := by have := wide_cases h1 h3; omega
    exact pd_lt8 h3 (by omega)

end Go.Proofs.Ytjplmmokbkkclaa.ImplWords
