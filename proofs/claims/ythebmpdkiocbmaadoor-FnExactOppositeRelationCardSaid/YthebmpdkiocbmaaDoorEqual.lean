
/- What the functions that compare lists in memory answer.
   Conditions: the lists are read as XMem's text says. -/
import Derived.Test.YthebmpdkiocbmaaDoorRows
import Derived.Test.YthebmpdkiocbmaaDoorMem
import Derived.Deep.QuietTactic
import Derived.BigQuiet
namespace Go.Proofs.YthebmpdkiocbmaaDoor.Equal
set_option linter.unusedVariables false
set_option linter.unusedSimpArgs false
open Go.RowKit Mem

set_option maxHeartbeats 400000 in
theorem eqInts (xs ys : List Int) (va vb : Value) (w : World) (B : Nat) (ha : Ints w B va xs) (hb : Ints w B vb ys) :
    Calls Tryd.prog 22 #[va, vb] w fun e w' => e = .returned (.bool (same xs ys)) ∧ ∃ n, w' = w.drewN n := by
  obtain ⟨a, ba, oa, ca, rfl, hma, haa, hca⟩ := ha
  obtain ⟨b, bb, ob, cb, rfl, hmb, hbb, hcb⟩ := hb
  unfold maxLen at hma hmb
  by_cases hl : xs.length = ys.length
  · have HL := Lib.hid hl
    obtain ⟨n, hn⟩ : ∃ n, n = xs.length := ⟨_, rfl⟩
    have hn2 : ys.length = n := by omega
    rw [← hn, hn2]
    rw [← hn] at hma hca haa
    rw [hn2] at hcb hbb
    have HN := Lib.hid hn
    have HN2 := Lib.hid hn2
    clear hl hn hn2 hmb
    go_enter Tryd.func22, Tryd.ntmps22
    go_wp2
    go_loopw [5] (fun i wr => ∃ k m : Nat, k ≤ n ∧ i = .int .i64 k ∧ xs.take k = ys.take k ∧ wr = w.drewN m) (fun i _ => n - (intOf i).toNat)
    case atStart => exact ⟨0, 0, Nat.zero_le _, rfl, rfl, rfl⟩
    case round =>
      obtain ⟨k, m, hk, rfl, hg, rfl⟩ := hrel
      have HG := Lib.hid hg
      clear hg
      by_cases hlt : k < n
      · obtain rfl := (haa (by omega)).1
        obtain rfl := (hbb (by omega)).1
        clear haa hbb
        have cA := hca k hlt
        have cB := hcb k hlt
        obtain ⟨x, hx⟩ : ∃ x, x = xs.getD k 0 := ⟨_, rfl⟩
        obtain ⟨y, hy⟩ : ∃ y, y = ys.getD k 0 := ⟨_, rfl⟩
        rw [← hx] at cA
        rw [← hy] at cB
        by_cases he : x = y
        · have HY := Lib.hid (same_step xs ys 0 k (by rw [← HN.out]; exact hlt) (by rw [HN2.out]; exact hlt) HG.out (by rw [← hx, ← hy, he]))
          have ht : (x != y) = false := by simp [he]
          clear hca hcb hx hy
          subst he
          clear ht
          go_wp2
          go_quiet (fail)
          go_wp2
          go_roundw
          case rel => exact ⟨k + 1, _, by omega, by go_num, HY.out, rfl⟩
          case measure => simp [intOf]; omega
        · have HS := Lib.hid (same_no xs ys 0 k (by rw [← hx, ← hy]; exact he))
          have ht : (x != y) = true := by rw [bne_iff_ne]; exact he
          clear hca hcb hx hy
          go_wp2
          go_quiet (fail)
          go_wp2
          go_ret
          exact ⟨by rw [HS.out]; rfl, _, World.drewN_drewN ..⟩
      · have HE := Lib.hid (same_end xs ys k (by rw [← HN.out]; omega) HL.out HG.out)
        go_wp2
        go_ret
        exact ⟨by rw [HE.out]; rfl, _, rfl⟩
  · have HS := Lib.hid (same_len xs ys hl)
    have h1 : ((xs.length : Int) != (ys.length : Int)) = true := by rw [bne_iff_ne]; omega
    obtain ⟨p, hp⟩ : ∃ p : Nat, p = xs.length := ⟨_, rfl⟩
    obtain ⟨q, hq⟩ : ∃ q : Nat, q = ys.length := ⟨_, rfl⟩
    rw [← hp, ← hq] at h1
    rw [← hp, ← hq]
    clear hca hcb hl hma hmb hp hq haa hbb
    go_enter Tryd.func22, Tryd.ntmps22
    go_wp2
    go_ret
    exact ⟨by rw [HS.out]; rfl, 0, rfl⟩
set_option maxHeartbeats 400000 in
theorem eqBools (xs ys : List Bool) (va vb : Value) (w : World) (B : Nat) (ha : Bools w B va xs) (hb : Bools w B vb ys) :
    Calls Tryd.prog 42 #[va, vb] w fun e w' => e = .returned (.bool (same xs ys)) ∧ ∃ n, w' = w.drewN n := by
  obtain ⟨a, ba, oa, ca, rfl, hma, haa, hca⟩ := ha
  obtain ⟨b, bb, ob, cb, rfl, hmb, hbb, hcb⟩ := hb
  unfold maxLen at hma hmb
  by_cases hl : xs.length = ys.length
  · have HL := Lib.hid hl
    obtain ⟨n, hn⟩ : ∃ n, n = xs.length := ⟨_, rfl⟩
    have hn2 : ys.length = n := by omega
    rw [← hn, hn2]
    rw [← hn] at hma hca haa
    rw [hn2] at hcb hbb
    have HN := Lib.hid hn
    have HN2 := Lib.hid hn2
    clear hl hn hn2 hmb
    go_enter Tryd.func42, Tryd.ntmps42
    go_wp2
    go_loopw [5] (fun i wr => ∃ k m : Nat, k ≤ n ∧ i = .int .i64 k ∧ xs.take k = ys.take k ∧ wr = w.drewN m) (fun i _ => n - (intOf i).toNat)
    case atStart => exact ⟨0, 0, Nat.zero_le _, rfl, rfl, rfl⟩
    case round =>
      obtain ⟨k, m, hk, rfl, hg, rfl⟩ := hrel
      have HG := Lib.hid hg
      clear hg
      by_cases hlt : k < n
      · obtain rfl := (haa (by omega)).1
        obtain rfl := (hbb (by omega)).1
        clear haa hbb
        have cA := hca k hlt
        have cB := hcb k hlt
        obtain ⟨x, hx⟩ : ∃ x, x = xs.getD k false := ⟨_, rfl⟩
        obtain ⟨y, hy⟩ : ∃ y, y = ys.getD k false := ⟨_, rfl⟩
        rw [← hx] at cA
        rw [← hy] at cB
        by_cases he : x = y
        · have HY := Lib.hid (same_step xs ys false k (by rw [← HN.out]; exact hlt) (by rw [HN2.out]; exact hlt) HG.out (by rw [← hx, ← hy, he]))
          clear hca hcb hx hy
          subst he
          have ht : (x != x) = false := by simp
          go_wp2
          go_quiet (fail)
          go_wp2
          go_roundw
          case rel => exact ⟨k + 1, _, by omega, by go_num, HY.out, rfl⟩
          case measure => simp [intOf]; omega
        · have HS := Lib.hid (same_no xs ys false k (by rw [← hx, ← hy]; exact he))
          have ht : (x == y) = false := by simpa using he
          clear hca hcb hx hy
          go_wp2
          go_quiet (fail)
          go_wp2
          go_ret
          exact ⟨by rw [HS.out]; rfl, _, World.drewN_drewN ..⟩
      · have HE := Lib.hid (same_end xs ys k (by rw [← HN.out]; omega) HL.out HG.out)
        go_wp2
        go_ret
        exact ⟨by rw [HE.out]; rfl, _, rfl⟩
  · have HS := Lib.hid (same_len xs ys hl)
    have h1 : ((xs.length : Int) != (ys.length : Int)) = true := by rw [bne_iff_ne]; omega
    obtain ⟨p, hp⟩ : ∃ p : Nat, p = xs.length := ⟨_, rfl⟩
    obtain ⟨q, hq⟩ : ∃ q : Nat, q = ys.length := ⟨_, rfl⟩
    rw [← hp, ← hq] at h1
    rw [← hp, ← hq]
    clear hca hcb hl hma hmb hp hq haa hbb
    go_enter Tryd.func42, Tryd.ntmps42
    go_wp2
    go_ret
    exact ⟨by rw [HS.out]; rfl, 0, rfl⟩
set_option maxHeartbeats 400000 in
theorem eqRows (xs ys : List (List Int)) (va vb : Value) (w : World) (B : Nat) (ha : IntRows w B va xs) (hb : IntRows w B vb ys) :
    Calls Tryd.prog 43 #[va, vb] w fun e w' => e = .returned (.bool (same xs ys)) ∧ ∃ n, w' = w.drewN n := by
  obtain ⟨U, ⟨a, ba, oa, ca, rfl, hma, haa, hca⟩, hU⟩ := ha
  obtain ⟨V, ⟨b, bb, ob, cb, rfl, hmb, hbb, hcb⟩, hV⟩ := hb
  unfold maxLen at hma hmb
  by_cases hl : xs.length = ys.length
  · have HL := Lib.hid hl
    obtain ⟨n, hn⟩ : ∃ n, n = xs.length := ⟨_, rfl⟩
    have hn2 : ys.length = n := by omega
    rw [← hn, hn2]
    rw [← hn] at hma hca haa hU
    rw [hn2] at hcb hbb hV
    have HN := Lib.hid hn
    have HN2 := Lib.hid hn2
    clear hl hn hn2 hmb
    go_enter Tryd.func43, Tryd.ntmps43
    go_wp2
    go_loopw [5] (fun i wr => ∃ k m : Nat, k ≤ n ∧ i = .int .i64 k ∧ xs.take k = ys.take k ∧ wr = w.drewN m) (fun i _ => n - (intOf i).toNat)
    case atStart => exact ⟨0, 0, Nat.zero_le _, rfl, rfl, rfl⟩
    case round =>
      obtain ⟨k, m, hk, rfl, hg, rfl⟩ := hrel
      have HG := Lib.hid hg
      clear hg
      by_cases hlt : k < n
      · obtain rfl := (haa (by omega)).1
        obtain rfl := (hbb (by omega)).1
        clear haa hbb
        have cA := hca k hlt
        have cB := hcb k hlt
        obtain ⟨x, hx⟩ : ∃ x, x = xs.getD k [] := ⟨_, rfl⟩
        obtain ⟨y, hy⟩ : ∃ y, y = ys.getD k [] := ⟨_, rfl⟩
        have uA := hU k hlt
        have uB := hV k hlt
        rw [← hx] at uA
        rw [← hy] at uB
        obtain ⟨u, hu⟩ : ∃ u, u = U k := ⟨_, rfl⟩
        obtain ⟨v, hv⟩ : ∃ v, v = V k := ⟨_, rfl⟩
        rw [← hu] at cA uA
        rw [← hv] at cB uB
        have UA := Lib.hid uA
        have UB := Lib.hid uB
        clear hu hv uA uB hU hV
        by_cases he : x = y
        · have HY := Lib.hid (same_step xs ys [] k (by rw [← HN.out]; exact hlt) (by rw [HN2.out]; exact hlt) HG.out (by rw [← hx, ← hy, he]))
          clear hca hcb hx hy
          subst he
          have HT := Lib.hid (same_self x)
          have HC := Lib.hid (fun q => (HT.out ▸ eqInts x x u v (w.drewN q) B UA.out UB.out : Calls Tryd.prog 22 #[u, v] (w.drewN q) fun e w' => e = .returned (.bool true) ∧ ∃ n, w' = (w.drewN q).drewN n))
          go_wp2
          go_quiet ((go_at_call 22; exact quiet_drewN HC.out))
          go_wp2
          go_roundw
          case rel => exact ⟨k + 1, _, by omega, by go_num, HY.out, rfl⟩
          case measure => simp [intOf]; omega
        · have HS := Lib.hid (same_no xs ys [] k (by rw [← hx, ← hy]; exact he))
          have HT := Lib.hid (show same x y = false by unfold same; simp [he])
          clear hca hcb hx hy
          have HC := Lib.hid (fun q => (HT.out ▸ eqInts x y u v (w.drewN q) B UA.out UB.out : Calls Tryd.prog 22 #[u, v] (w.drewN q) fun e w' => e = .returned (.bool false) ∧ ∃ n, w' = (w.drewN q).drewN n))
          go_wp2
          go_quiet ((go_at_call 22; exact quiet_drewN HC.out))
          go_wp2
          go_ret
          exact ⟨by rw [HS.out]; rfl, _, World.drewN_drewN ..⟩
      · have HE := Lib.hid (same_end xs ys k (by rw [← HN.out]; omega) HL.out HG.out)
        go_wp2
        go_ret
        exact ⟨by rw [HE.out]; rfl, _, rfl⟩
  · have HS := Lib.hid (same_len xs ys hl)
    have h1 : ((xs.length : Int) != (ys.length : Int)) = true := by rw [bne_iff_ne]; omega
    obtain ⟨p, hp⟩ : ∃ p : Nat, p = xs.length := ⟨_, rfl⟩
    obtain ⟨q, hq⟩ : ∃ q : Nat, q = ys.length := ⟨_, rfl⟩
    rw [← hp, ← hq] at h1
    rw [← hp, ← hq]
    clear hca hcb hl hma hmb hp hq haa hbb hU hV
    go_enter Tryd.func43, Tryd.ntmps43
    go_wp2
    go_ret
    exact ⟨by rw [HS.out]; rfl, 0, rfl⟩
end Go.Proofs.YthebmpdkiocbmaaDoor.Equal
