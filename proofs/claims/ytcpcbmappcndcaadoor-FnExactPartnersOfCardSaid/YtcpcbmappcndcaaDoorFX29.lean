
/- What the model's FixTape answers: a relation in memory of its own, and a code.
   Conditions: the relation is read as XRel's text says; the text is no longer than a Go text can be. -/
import Derived.Test.YtcpcbmappcndcaaDoorFX22
import Derived.Test.YtcpcbmappcndcaaDoorFX25
import Derived.Test.YtcpcbmappcndcaaDoorFX27
import Derived.Test.YtcpcbmappcndcaaDoorFX28
import Derived.Test.YtcpcbmappcndcaaDoorFX20
import Derived.Deep.RegionHeld3
import Derived.Deep.DrawnRows
import Derived.Deep.RegionLaw
import Derived.Deep.RegionWith
import Derived.Deep.DeepCutAuto
import Derived.IntWalk
namespace Go.Proofs.YtcpcbmappcndcaaDoor.FixS
set_option linter.unusedVariables false
set_option linter.unusedSimpArgs false
set_option linter.ambiguousOpen false
set_option maxRecDepth 100000
open Go.RowKit Mem Copy Rel Valid Heap Bld Columns ColMath SpecFiner Numbers TidyMath TidyAuto TidyRight SpecRight ToL SpecTidyRel Automaton ImplRight ImplTidied OppImpl TapeMath StepI  Push PairMath WithMath WordMath Word Digs WithS RestS DropI FixedI FixFn ToldI
attribute [local go_sem ↓] Go.wp_at_zero Go.wp_at_succ

abbrev KQ (W1 : World) (W : World) : Prop := Below W1.heap.size W1 W
theorem KQ.size {W1 W : World} (h : KQ W1 W) : W1.heap.size ≤ W.heap.size := Below.size h
theorem relX (T : L) (t : Nat) (u : ByteArray) (m1 m2 : Nat) (ac : Nat → Bool) (rr : Nat → Nat → Int) (hm1 : m1 = u.size + 1) (hm2 : m2 = wide (T.k - 1)) (hs : T.start = 0)
    (hac : ac = fun x => restB T t (x / m1) ((digs u).drop (x % m1))) (hrw : rr = fun x c => ((fixR T t (digs u) (x / m1) (x % m1) c : Nat) : Int)) :
    relOf (fixL T t (digs u)) = ⟨((T.k - 1 : Nat) : Int), 0, (List.range (T.acc.length * m1)).map ac, (List.range (T.acc.length * m1)).map fun x => (List.range m2).map (rr x)⟩ := by
  subst hac hrw hm2 hm1
  have e0 : (fixL T t (digs u)).start = 0 := by show T.start * _ = 0; rw [hs, Nat.zero_mul]
  have e1 : (fixL T t (digs u)).acc = (List.range (T.acc.length * (u.size + 1))).map fun x => restB T t (x / (u.size + 1)) ((digs u).drop (x % (u.size + 1))) := by unfold fixL; simp only [digs_len]
  have e2 : (fixL T t (digs u)).nx.map ofN = (List.range (T.acc.length * (u.size + 1))).map fun x => (List.range (wide (T.k - 1))).map fun c => ((fixR T t (digs u) (x / (u.size + 1)) (x % (u.size + 1)) c : Nat) : Int) := by
    unfold fixL
    simp only [digs_len]
    rw [List.map_map]
    refine List.map_congr_left fun x _ => ?_
    show ofN (List.map _ _) = _
    unfold ofN
    rw [List.map_map]
    rfl
  unfold relOf
  rw [e0, e1, e2]
  rfl
theorem pos_div {s m1 i : Nat} (h : i < m1) : (s * m1 + i) / m1 = s ∧ (s * m1 + i) % m1 = i := by
  have hp : 0 < m1 := by omega
  constructor
  · rw [Nat.add_comm, Nat.add_mul_div_right _ _ hp, Nat.div_eq_of_lt h, Nat.zero_add]
  · rw [Nat.add_comm, Nat.add_mul_mod_self_right, Nat.mod_eq_of_lt h]
theorem bld_new {w : World} {k : Int} : Bld (w.alloc (.cells #[.int .i64 k, .int .i64 0, .slice none 0 0, .slice none 0 0] 27)) w.heap.size w.heap.size k 0 (.slice none 0 0) (.slice none 0 0) [] [] [] :=
  ⟨Own.nil _ _ _, Lst.nil _ _ _, Lst.nil _ _ _, heap_alloc_new _ _, Nat.le_refl _⟩

set_option maxHeartbeats 16000000 in
theorem specFix (v : Value) (r : R) (x : Int) (u : ByteArray) (hu : u.size ≤ maxLen) (w : World) (B : Nat) (h : RelAt w B v r) (hB : B ≤ w.heap.size) :
    Calls Tryd.prog 7 #[v, .int .i64 x, .string u] w fun e w' => ∃ va vn, e = .returned (.tuple #[.agg #[.int .i64 (fixFK r x u), .int .i64 0, va, vn], .int .i64 (fixFC r x u)]) ∧ Built w' w.heap.size va vn (fixFA r x u) (fixFN r x u) ∧ Below w.heap.size w w' := by
  have hR := h
  have HFW := Lib.hid (fun W bp (hp : RelPtr W W.heap.size bp r) => fewerS r x bp W W.heap.size hp)
  have HV := Lib.hid (fun W bp (hp : RelPtr W W.heap.size bp r) => specOk r bp W W.heap.size hp)
  have HWD := Lib.hid (fun W => specWord u W hu)
  have HN0 := Lib.hid (fun h0 => fixF_no (r := r) (x := x) (u := u) h0)
  have HY0 := Lib.hid (fun h0 => fixF_yes (r := r) (x := x) (u := u) h0)
  have HD0 := Lib.hid (fun h1 h2 => fix_drop (r := r) (x := x) (u := u) h1 h2)
  have HD1 := Lib.hid (show ¬ (okB r = true ∧ wordB u = true) → fixC0 r x u = 1 from fun h => if_neg h)
  have HD2 := Lib.hid (fun h0 => fix_word (r := r) (x := x) (u := u) h0)
  obtain ⟨C0, hC0⟩ : ∃ y, y = fixC0 r x u := ⟨_, rfl⟩
  obtain ⟨D0, hD0⟩ : ∃ y, y = dropC r x := ⟨_, rfl⟩
  obtain ⟨cC, hcC⟩ : ∃ y, y = fixFC r x u := ⟨_, rfl⟩
  obtain ⟨cK, hcK⟩ : ∃ y, y = fixFK r x u := ⟨_, rfl⟩
  obtain ⟨cA, hcA⟩ : ∃ y, y = fixFA r x u := ⟨_, rfl⟩
  obtain ⟨cN, hcN⟩ : ∃ y, y = fixFN r x u := ⟨_, rfl⟩
  obtain ⟨q, hq⟩ : ∃ y, y = okB r := ⟨_, rfl⟩
  obtain ⟨qw, hqw⟩ : ∃ y, y = wordB u := ⟨_, rfl⟩
  rw [← hC0, ← hcC, ← hcK, ← hcA, ← hcN] at HN0 HY0
  rw [← hq, ← hqw, ← hC0, ← hD0] at HD0
  rw [← hq, ← hqw, ← hC0] at HD1
  rw [← hC0, ← hD0] at HD2
  rw [← hD0] at HFW
  rw [← hq] at HV
  rw [← hqw] at HWD
  rw [← hcC, ← hcK, ← hcA, ← hcN]
  clear hcC hcK hcA hcN hq hqw hC0
  obtain ⟨va, vn, rfl, ha, hx⟩ := h
  have HPTR := Lib.hid (fun W (hW : K0 w #[.int .i64 r.tapes, .int .i64 r.start, va, vn] W) => box_ptr hR hB (K0.base hW) (K0.box hW))
  obtain ⟨aa, ba, oa, ca, rfl, -, -, -⟩ := ha
  obtain ⟨-, ⟨ab, bb, ob, cb, rfl, -, -, -⟩, -⟩ := hx
  obtain ⟨k, hk⟩ : ∃ k : Int, k = r.tapes := ⟨_, rfl⟩
  obtain ⟨st, hs⟩ : ∃ st : Int, st = r.start := ⟨_, rfl⟩
  obtain ⟨na, hna⟩ : ∃ na, na = r.accept.length := ⟨_, rfl⟩
  obtain ⟨nb, hnb⟩ : ∃ nb, nb = r.next.length := ⟨_, rfl⟩
  rw [← hk, ← hs, ← hna, ← hnb] at HPTR
  have HKR := Lib.hid hk
  have HDD0 := Lib.hid hD0
  rw [← hk, ← hs, ← hna, ← hnb]
  have HK0 := Lib.hid (show K0 w #[.int .i64 k, .int .i64 st, .slice aa na ca, .slice ab nb cb] ((w.alloc (.cells #[.int .i64 k, .int .i64 st, .slice aa na ca, .slice ab nb cb] 27)).alloc (.cells #[Value.int .i64 0, .int .i64 0, .slice none 0 0, .slice none 0 0] 27)) from Below.refl _ _)
  have HV1 := Lib.hid (HV.out _ _ (HPTR.out _ HK0.out))
  have HST := Lib.hid (fun W W' (h : K0 w #[.int .i64 k, .int .i64 st, .slice aa na ca, .slice ab nb cb] W) (hb : Below W.heap.size W W') => (show K0 w #[.int .i64 k, .int .i64 st, .slice aa na ca, .slice ab nb cb] W' from Below.trans h (hb.mono (K0.size h))))
  clear hk hs hna hnb HV hB hR hD0
  go_enter Tryd.func7, Tryd.ntmps7
  go_wp2_with fail
  refine HV1.out.mono ?_
  rintro e w3 ⟨rfl, mq, hw3⟩
  have hk3 : K0 w #[.int .i64 k, .int .i64 st, .slice aa na ca, .slice ab nb cb] w3 := by rw [hw3]; exact below_drewN HK0.out mq
  have HK3 := Lib.hid hk3
  have r0 := cells_get (K0.res hk3) 0
  have r1 := cells_get (K0.res hk3) 1
  have r2 := cells_get (K0.res hk3) 2
  have r3 := cells_get (K0.res hk3) 3
  have f0 := cells_free (K0.res hk3) 0
  have f1 := cells_free (K0.res hk3) 1
  have f2 := cells_free (K0.res hk3) 2
  have f3 := cells_free (K0.res hk3) 3
  have hlS := lt_of_block (K0.res hk3)
  have x0 := cells_get (K0.box hk3) 0
  have x1 := cells_get (K0.box hk3) 1
  have x2 := cells_get (K0.box hk3) 2
  have x3 := cells_get (K0.box hk3) 3
  simp at r0 r1 r2 r3 x0 x1 x2 x3
  clear hw3 hk3 HV1 HK0
  cases q with
  | false =>
    have e1 := HD1.out (fun h => by cases h.1)
    subst e1
    obtain ⟨rfl, rfl, rfl, rfl⟩ := HN0.out (by decide)
    clear HN0 HY0 HD0 HD1 HD2 HFW HWD HPTR
    go_wp2_with fail
    obtain ⟨g0, g1, g2, g3⟩ := res4 (a := .int .i64 0) (b := .int .i64 0) (c := .slice none 0 0) (d := .slice none 0 0) (K0.res HK3.out)
    refine bodyPost_ret (v := .tuple #[.agg #[.int .i64 0, .int .i64 0, .slice none 0 0, .slice none 0 0], .int .i64 1]) (by simp [results, Tryd.results7, go_sem, g0, g1, g2, g3]) rfl ⟨.slice none 0 0, .slice none 0 0, rfl, ImplTidied.built_none _ _, ?_⟩
    exact set4_below (K0.base HK3.out) (Nat.le_succ _)
  | true =>
    have HWW := Lib.hid (HWD.out w3)
    cases qw with
    | false =>
      have e1 := HD1.out (fun h => by cases h.2)
      subst e1
      obtain ⟨rfl, rfl, rfl, rfl⟩ := HN0.out (by decide)
      clear HN0 HY0 HD0 HD1 HD2 HFW HWD HPTR
      go_wp2_with (go_at_call 20; refine HWW.out.mono ?_; rintro e w' ⟨rfl, rfl⟩)
      obtain ⟨g0, g1, g2, g3⟩ := res4 (a := .int .i64 0) (b := .int .i64 0) (c := .slice none 0 0) (d := .slice none 0 0) (K0.res HK3.out)
      refine bodyPost_ret (v := .tuple #[.agg #[.int .i64 0, .int .i64 0, .slice none 0 0, .slice none 0 0], .int .i64 1]) (by simp [results, Tryd.results7, go_sem, g0, g1, g2, g3]) rfl ⟨.slice none 0 0, .slice none 0 0, rfl, ImplTidied.built_none _ _, ?_⟩
      exact set4_below (K0.base HK3.out) (Nat.le_succ _)
    | true =>
      have e1 := HD0.out rfl rfl
      subst e1
      have HDD := Lib.hid (HFW.out w3 _ (HPTR.out _ HK3.out))
      clear HD0 HD1 HWD HFW
      by_cases h0 : C0 = 0
      · have HYE := Lib.hid (HY0.out h0)
        obtain ⟨hok, hwd, hdr⟩ := HD2.out h0
        clear hdr
        have hdr : dropC r x = 0 := HDD0.out.symm.trans h0
        obtain ⟨hk2, hkt, hxe⟩ := drop_ok hok hdr
        subst h0
        clear HN0 HY0 HD2 hdr
        -- {fast
        obtain ⟨T, hT⟩ : ∃ T, T = tidL (toL r) := ⟨_, rfl⟩
        have h1 := okL hok
        have HTO : Hid T.Ok := by rw [hT]; exact Lib.hid (tidL_ok h1.1.2)
        have HTS := Lib.hid (show T.start = 0 from by rw [hT]; rfl)
        obtain ⟨t, ht⟩ : ∃ t : Nat, t = x.toNat := ⟨_, rfl⟩
        rw [← ht] at hkt hxe HYE
        subst hxe
        obtain ⟨kn, hkn⟩ : ∃ kn : Nat, kn = (toL r).k := ⟨_, rfl⟩
        have HTK := Lib.hid (show T.k = kn from by rw [hT, hkn]; rfl)
        have hk3 : kn ≤ 3 := by rw [hkn]; exact h1.1.2.k3
        have hkk : k = (kn : Int) := by rw [HKR.out, hkn, ← congrArg R.tapes h1.1.1]; rfl
        rw [← hkn] at hk2 hkt
        have HREL := Lib.hid (show relOf T = ⟨(kn : Int), 0, tidyAcc (toL r), tidyNext (toL r)⟩ from by rw [hT, hkn]; exact tidL_rel (toL r))
        have HTD := Lib.hid (fun bp W (hp : RelPtr W W.heap.size bp r) (hbp : bp < W.heap.size) => (show Calls Tryd.prog 22 #[.pointer (some ⟨bp, 0, none⟩)] W (fun e w' => ∃ va vn, e = .returned (.agg #[.int .i64 (kn : Nat), .int .i64 0, va, vn]) ∧ Built w' W.heap.size va vn (tidyAcc (toL r)) (tidyNext (toL r)) ∧ Below W.heap.size W w') from by
          rw [hkn]
          exact SpecTidied.tidied (toL r) h1.1.2 bp W W.heap.size (by rw [h1.1.1]; exact hp) (Nat.le_refl _) hbp (by have := h1.2; omega)))
        obtain ⟨n, hn⟩ : ∃ n, n = (tidyAcc (toL r)).length := ⟨_, rfl⟩
        have HNT := Lib.hid (show T.acc.length = n from by rw [hT, hn]; rfl)
        obtain ⟨m1, hm1⟩ : ∃ m1, m1 = u.size + 1 := ⟨_, rfl⟩
        have hul : u.size ≤ 40 := word_len hwd
        have HYN := Lib.hid (fun (hh : 1000 < n * m1) => (show cC = 3 ∧ cK = 0 ∧ cA = [] ∧ cN = [] from by
          have hb : fixB (toL r) t u = false := by unfold fixB; rw [decide_eq_false (by rw [← hn, ← hm1]; omega), Bool.false_and]
          obtain ⟨e1, e2, e3, e4⟩ := HYE.out
          rw [hb] at e1
          obtain ⟨z2, z3, z4⟩ := fix_no hb
          rw [z2] at e2; rw [z3] at e3; rw [z4] at e4
          exact ⟨e1, e2, e3, e4⟩))
        have HYY := Lib.hid (fun (hh : n * m1 ≤ 1000) => (show cC = (if fewB (fixL T t (digs u)) 150 = true then 0 else 3) ∧ cK = fewK (fixL T t (digs u)) 150 ∧ cA = fewA (fixL T t (digs u)) 150 ∧ cN = fewN (fixL T t (digs u)) 150 from by
          obtain ⟨e1, e2, e3, e4⟩ := HYE.out
          obtain ⟨z1, z2, z3, z4⟩ := fix_few (l := toL r) (tape := t) (u := u) (by rw [← hn, ← hm1]; exact hh)
          rw [z1] at e1; rw [z2] at e2; rw [z3] at e3; rw [z4] at e4
          rw [hT]
          exact ⟨e1, e2, e3, e4⟩))
        have HTA := Lib.hid hT
        have HNA := Lib.hid hn
        have HNL := Lib.hid (show n ≤ 1000000 from by rw [hn]; exact tidy_most (l := toL r) h1.1.2 (by have := h1.2; omega))
        have HWB := Lib.hid hwd
        subst hkk
        clear HYE hT h1 hn hkn ht hok hwd HKR HDD0
        have hwu : IntKind.i64.wrap ((u.size : Int) + 1) = (m1 : Int) := by rw [hm1]; exact FixRule.wrap_small (u.size + 1) (by omega) |>.1
        have HM1 := Lib.hid hm1
        have hma : u.size < m1 := by omega
        have hmb : m1 ≤ u.size + 1 := by omega
        clear hm1
        go_upto_region 7 with (first
          | (go_at_call 20; refine HWW.out.mono ?_; rintro e w' ⟨rfl, rfl⟩)
          | (go_at_call 21; refine HDD.out.mono ?_; rintro e w4 ⟨rfl, mb, hw4⟩; have HK4 : Hid (K0 w #[.int .i64 (kn : Nat), .int .i64 st, .slice aa na ca, .slice ab nb cb] w4) := (by rw [hw4]; exact Lib.hid (below_drewN HK3.out mb)); clear hw4 r0 r1 r2 r3 f0 f1 f2 f3 hlS x0 x1 x2 x3)
          | (go_at_call 22; refine (HTD.out _ w4 (HPTR.out _ HK4.out) (by have := K0.size HK4.out; omega)).mono ?_; rintro e w5 ⟨va, vn, rfl, hbu, hb5⟩; have HK5 := Lib.hid (HST.out _ _ HK4.out hb5); have HB5 := Lib.hid hbu; obtain ⟨a5, n5, c5, rfl, HN5⟩ := hbu.acc.shape'; obtain ⟨items5, -, hnx5, -⟩ := hbu.rows; obtain ⟨b5, m5, d5, rfl, -⟩ := hnx5.shape'; clear hbu hb5 hnx5))
        have hn5 : n5 = n := by rw [HN5.out, List.length_map, HNA.out]
        subst hn5
        obtain ⟨N9, hN9⟩ : ∃ N, N = w5.heap.size := ⟨_, rfl⟩
        obtain ⟨W1, hW1⟩ : ∃ W, W = w5.alloc (.cells #[.int .i64 (kn : Nat), .int .i64 0, .slice a5 n5 c5, .slice b5 m5 d5] 27) := ⟨_, rfl⟩
        have hb51 : Below w5.heap.size w5 W1 := by rw [hW1]; exact (Below.refl _ _).alloc (Nat.le_refl _) _
        have hk1 : K0 w #[.int .i64 (kn : Nat), .int .i64 st, .slice aa na ca, .slice ab nb cb] W1 := HST.out _ _ HK5.out hb51
        have h19 : W1.heap[N9]? = some (.cells #[.int .i64 (kn : Nat), .int .i64 0, .slice a5 n5 c5, .slice b5 m5 d5] 27 (0, 0)) := by rw [hW1, hN9]; exact heap_alloc_new _ _
        have HF9 := Lib.hid (fun W (hb : KQ W1 W) => (show W.heap[N9]? = some (.cells #[.int .i64 (kn : Nat), .int .i64 0, .slice a5 n5 c5, .slice b5 m5 d5] 27 (0, 0)) from by rw [hb.block N9 (lt_of_block h19)]; exact h19))
        have HFK := Lib.hid (fun W (hb : KQ W1 W) => HST.out _ _ hk1 hb)
        have HRP := Lib.hid (fun W (hb : KQ W1 W) => (show RelPtr W W.heap.size N9 (relOf T) from by
          rw [HREL.out]
          exact box_ptr (w := w5) (B := w5.heap.size) (HB5.out.mono (Nat.le_refl _) |>.reads w5.heap.size (Nat.le_refl _) _ _) (Nat.le_refl _) (hb51.trans (hb.mono hb51.size)) (HF9.out W hb)))
        rw [← hW1, ← hN9]
        have HN9 := Lib.hid (lt_of_block h19)
        have HKB := Lib.hid (K0.size hk1)
        have z9 := cells_get (HF9.out W1 (Below.refl _ _)) 2
        have z91 := cells_get (HF9.out W1 (Below.refl _ _)) 1
        have hl9 := lt_of_block h19
        have r0 := cells_get (K0.res hk1) 0
        have r1 := cells_get (K0.res hk1) 1
        have r2 := cells_get (K0.res hk1) 2
        have r3 := cells_get (K0.res hk1) 3
        have f0 := cells_free (K0.res hk1) 0
        have f1 := cells_free (K0.res hk1) 1
        have f2 := cells_free (K0.res hk1) 2
        have f3 := cells_free (K0.res hk1) 3
        have hlS := lt_of_block (K0.res hk1)
        have x0 := cells_get (K0.box hk1) 0
        have hlB := lt_of_block (K0.box hk1)
        simp at z9 z91 r0 r1 r2 r3 x0
        obtain ⟨nm, hnm⟩ : ∃ nm, nm = n5 * m1 := ⟨_, rfl⟩
        have hn3 : n5 ≤ 1000000 := HNL.out
        have hwm : IntKind.i64.wrap ((n5 : Int) * (m1 : Int)) = (nm : Int) := by
          have h2 : n5 * m1 ≤ 1000000 * 41 := Nat.mul_le_mul hn3 (by omega)
          rw [show (n5 : Int) * (m1 : Int) = (nm : Int) by rw [hnm]; exact (Int.natCast_mul _ _).symm]
          exact (IntWalk.i64_in _ (by omega))
        have HNM := Lib.hid hnm
        clear hnm
        clear hW1 hb51 h19 hN9 HPTR
        by_cases hlim : 1000 < nm
        · obtain ⟨rfl, rfl, rfl, rfl⟩ := HYN.out (by rw [← HNM.out]; exact hlim)
          clear HYN HYY x0 hlB
          go_wp2_with fail
          obtain ⟨g0, g1, g2, g3⟩ := res4 (a := .int .i64 0) (b := .int .i64 0) (c := .slice none 0 0) (d := .slice none 0 0) (K0.res hk1)
          refine bodyPost_ret (v := .tuple #[.agg #[.int .i64 0, .int .i64 0, .slice none 0 0, .slice none 0 0], .int .i64 3]) (by simp [results, Tryd.results7, go_sem, g0, g1, g2, g3]) rfl ⟨.slice none 0 0, .slice none 0 0, rfl, ImplTidied.built_none _ _, ?_⟩
          exact set4_below (K0.base hk1) (Nat.le_succ _)
        · have HYS := Lib.hid (HYY.out (by rw [← HNM.out]; omega))
          have hwz : IntKind.i64.wrap ((0 : Int) * (m1 : Int)) = 0 := by rw [Int.zero_mul]; rfl
          have hwk : IntKind.i64.wrap ((kn : Int) - 1) = ((kn - 1 : Nat) : Int) := by
            rw [show (kn : Int) - 1 = ((kn - 1 : Nat) : Int) by omega]
            exact (FixRule.wrap_small (kn - 1) (by omega)).1
          have HLM := Lib.hid (show nm ≤ 1000 by omega)
          clear HYN HYY
          go_upto_region 11 with fail
          obtain ⟨N1, hN1⟩ : ∃ N, N = W1.heap.size := ⟨_, rfl⟩
          obtain ⟨j, hj⟩ : ∃ j, j = kn - 1 := ⟨_, rfl⟩
          obtain ⟨W2, hW2⟩ : ∃ W, W = W1.alloc (.cells #[.int .i64 ((kn - 1 : Nat) : Int), .int .i64 0, .slice none 0 0, .slice none 0 0] 27) := ⟨_, rfl⟩
          have HD0 := Lib.hid (show Bld W2 N1 N1 (j : Int) 0 (.slice none 0 0) (.slice none 0 0) [] [] [] from by rw [hW2, hN1, hj]; exact bld_new)
          have HB0 := Lib.hid (show KQ W1 W2 from by rw [hW2]; exact (Below.refl _ _).alloc (Nat.le_refl _) _)
          rw [← hW2, ← hN1, ← hj]
          obtain ⟨m, hm⟩ : ∃ m, m = wide kn := ⟨_, rfl⟩
          obtain ⟨m2, hm2⟩ : ∃ m2, m2 = wide j := ⟨_, rfl⟩
          have hm26 : m ≤ 26 ∧ 0 < m := by have := wide_cases (k := kn) (by omega) hk3; omega
          have hm226 : m2 ≤ 26 := by have := wide_cases (k := j) (by omega) (by omega); omega
          have HW := Lib.hid (fun W => (show Calls Tryd.prog 23 #[.int .i64 (j : Nat)] W (fun e w' => e = .returned (.int .i64 (m2 : Nat)) ∧ W = w') from by
            rw [hm2, ← wide_eq (k := j) (by omega) (by omega)]
            exact wideAny _ (by omega) (by omega) W))
          have HDL := Lib.hid (show ∀ i, (digs u).getD i 2 ≤ 2 from fun i => getD_le2 (digs_lt u) i)
          have HWC := Lib.hid (fun W c d (hc : c < m2) (hd : d ≤ 2) => (show Calls Tryd.prog 24 #[.int .i64 c, .int .i64 (kn : Nat), .int .i64 t, .int .i64 (d : Nat)] W (fun e w' => e = .returned (.int .i64 ((withN kn t d c : Nat) : Int)) ∧ ∃ m, w' = W.drewN m) from withS kn t d c hk3 (by omega) (by omega) hd W))
          have HCOL := Lib.hid (show ∀ i c, c < m2 → withN kn t ((digs u).getD i 2) c < m from fun i c hc => by
            have h3 := fix_col HTO.out (by rw [HTK.out]; exact hk2) (by rw [HTK.out]; exact hkt) (digs_lt u) i (c := c) (by rw [HTK.out, ← hj, ← hm2]; exact hc)
            rw [HTK.out, ← hm] at h3
            exact h3)
          have HYB := Lib.hid (show ∀ s, s < n5 → ∀ y, y < m → (T.nx.getD s []).getD y 0 < n5 from fun s hs y hy => by
            have h3 := HTO.out.lt s (by rw [HNT.out]; exact hs) y (by rw [HTK.out, ← hm]; exact hy)
            rw [HNT.out] at h3
            exact h3)
          obtain ⟨ac, hac⟩ : ∃ f : Nat → Bool, f = fun x => restB T t (x / m1) ((digs u).drop (x % m1)) := ⟨_, rfl⟩
          obtain ⟨rr, hrr⟩ : ∃ f : Nat → Nat → Int, f = fun x c => ((fixR T t (digs u) (x / m1) (x % m1) c : Nat) : Int) := ⟨_, rfl⟩
          have HAC := Lib.hid (show ∀ s i, i < m1 → ac (s * m1 + i) = restB T t s ((digs u).drop i) from fun s i hi => by
            obtain ⟨h3, h4⟩ := pos_div (s := s) hi
            rw [hac]; show restB T t ((s * m1 + i) / m1) ((digs u).drop ((s * m1 + i) % m1)) = _
            rw [h3, h4])
          have HRR := Lib.hid (show ∀ s i c, i < m1 → rr (s * m1 + i) c = (((T.nx.getD s []).getD (withN kn t ((digs u).getD i 2) c) 0 * m1 + min (i + 1) u.size : Nat) : Int) from fun s i c hi => by
            obtain ⟨h3, h4⟩ := pos_div (s := s) hi
            rw [hrr]; show ((fixR T t (digs u) ((s * m1 + i) / m1) ((s * m1 + i) % m1) c : Nat) : Int) = _
            rw [h3, h4]
            unfold fixR
            rw [HTK.out, digs_len, ← HM1.out])
          have HX := Lib.hid (show relOf (fixL T t (digs u)) = ⟨((j : Nat) : Int), 0, (List.range nm).map ac, (List.range nm).map fun x => (List.range m2).map (rr x)⟩ from by
            have h3 := relX T t u m1 m2 ac rr HM1.out (by rw [HTK.out, ← hj, hm2]) HTS.out hac hrr
            rw [HTK.out, ← hj, HNT.out, ← HNM.out] at h3
            exact h3)
          have HXO := Lib.hid (show (fixL T t (digs u)).Ok from fixL_ok HTO.out (by rw [HTK.out]; exact hk2) (by rw [HTK.out]; exact hkt) (digs_lt u))
          have HXN := Lib.hid (show (fixL T t (digs u)).acc.length = nm from by rw [fixL_len, digs_len, HNT.out, HNM.out, HM1.out])
          have HXK := Lib.hid (show (fixL T t (digs u)).k = j from by show T.k - 1 = j; rw [HTK.out, hj])
          have HPB := Lib.hid (show ∀ s i, s < n5 → i < m1 → s * m1 + i < nm from fun s i hs hi => by
            have h3 : (s + 1) * m1 ≤ n5 * m1 := Nat.mul_le_mul_right _ hs
            rw [Nat.succ_mul, ← HNM.out] at h3
            omega)
          have HRS := Lib.hid (fun W (hb : KQ W1 W) s (hs : s < n5) i (hi : i < m1) => (show Calls Tryd.prog 25 #[.pointer (some ⟨N9, 0, none⟩), .int .i64 s, .int .i64 t, .string (u.extract i u.size)] W (fun e w' => e = .returned (.bool (ac (s * m1 + i))) ∧ ∃ m, w' = W.drewN m) from by
            rw [HAC.out s i hi, ← digs_drop]
            exact RestS.restS T HTO.out (by rw [HTK.out]; exact hk2) t (by rw [HTK.out]; exact hkt) s (by rw [HNT.out]; exact hs) _ (word_drop HWB.out i) N9 W W.heap.size (HRP.out W hb) (Nat.le_refl _)))
          have hpos : 0 < n5 := by have h3 := HTO.out.st; rw [HNT.out] at h3; omega
          obtain ⟨vx, vy, d0, d1, d2, d3, -, V, ⟨am, bm, om, cm, e4, hmm, hma', hmc⟩, hrows⟩ := HRP.out W1 (Below.refl _ _)
          have e3 : Value.slice b5 m5 d5 = vy := by have h3 := (cells_get (HF9.out W1 (Below.refl _ _)) 3).symm.trans d3; simpa using h3
          rw [e4] at e3
          have hnl : (relOf T).next.length = n5 := by show (T.nx.map ofN).length = _; rw [List.length_map, HTO.out.len, HNT.out]
          rw [hnl] at e3 hmm hma' hmc hrows
          injection e3 with e31 e32 e33
          obtain ⟨eam, hbm⟩ := hma' hpos
          subst e32 e33
          rw [eam] at e31
          subst e31
          have HRC := Lib.hid (show ∀ s, s < m5 → ∃ br or cr, ∀ W, KQ W1 W → W.cell? ⟨bm, om + s, none⟩ = some (.slice (some ⟨br, or, none⟩) m cr) ∧ ∀ y, y < m → W.cell? ⟨br, or + y, none⟩ = some (.int .i64 (((T.nx.getD s []).getD y 0 : Nat) : Int)) from fun s hs => by
            have hgt : (relOf T).next.getD s [] = ofN (T.nx.getD s []) := by
              have h3 : s < T.nx.length := by rw [HTO.out.len, HNT.out]; exact hs
              show (T.nx.map ofN).getD s [] = _
              simp [List.getD, h3]
            obtain ⟨ar, br, or, cr, hvr, hmr, har, hcr⟩ := hrows s hs
            have hwl : (T.nx.getD s []).length = m := by rw [HTO.out.row s (by rw [HNT.out]; exact hs), HTK.out, hm]
            rw [hgt, ofN_length, hwl] at hvr hmr har hcr
            obtain ⟨rfl, hbr⟩ := har hm26.2
            refine ⟨br, or, cr, fun W hW => ⟨?_, fun y hy => ?_⟩⟩
            · rw [hW.cell (p := ⟨bm, om + s, none⟩) (by show bm < _; omega), hmc s hs, hvr]
            · rw [hW.cell (p := ⟨br, or + y, none⟩) (by show br < _; omega), hcr y hy]
              show some (Value.int .i64 ((ofN (T.nx.getD s [])).getD y 0)) = _
              rw [ofN_get _ (by rw [hwl]; exact hy)])
          have HNE := Lib.hid (show nm = m5 * m1 from HNM.out)
          have HN1 := Lib.hid hN1
          have HJ := Lib.hid (show 1 ≤ j ∧ j ≤ 2 by omega)
          have HM26 := Lib.hid hm26
          have HKN := Lib.hid (And.intro hk2 hk3)
          have HDG := Lib.hid (fun i (hi : i < u.size) => digs_get HWB.out hi)
          have HDE := Lib.hid (show (digs u).getD u.size 2 = 2 from by simp [List.getD, List.getElem?_eq_none (Nat.le_of_eq (digs_len u))])
          clear hW2 hN1 hac hrr hmc hrows hmm hma' d0 d1 d2 d3 e4 eam hnl z9 z91 r0 r1 r2 r3 f0 f1 f2 f3 hlS x0 hlB hl9 hwz hwk hwm hj hm hm2 HRP HTO HTS HTK HREL HWB hk2 hk3 hkt hm26 hlim HNT HM1 HNM HNA HTA HNL HTD HWW HDD
          go_wp2_with fail
          go_loopw [12, 13, 14, 15, 16, 17] (fun sS _ _ _ _ _ wr => ∃ (s : Nat) (vb vn : Value) (items : List (Value × List Value)), s ≤ m5 ∧ sS = .int .i64 s ∧ Bld wr N1 N1 (j : Int) 0 vb vn [] items ((List.range (s * m1)).map fun x => Value.bool (ac x)) ∧
            items.map Prod.snd = (List.range (s * m1)).map (fun x => tv m2 (rr x)) ∧ KQ W1 wr) (fun sS _ _ _ _ _ _ => m5 - (intOf sS).toNat)
          case atStart => exact ⟨0, _, _, [], Nat.zero_le _, rfl, by rw [Nat.zero_mul]; exact HD0.out, by rw [Nat.zero_mul]; rfl, HB0.out⟩
          case round =>
            obtain ⟨s, vb, vn, items, hs, rfl, hbld, hit, hbel⟩ := hrel
            have HD := Lib.hid hbld
            have HI := Lib.hid hit
            have HB := Lib.hid hbel
            have z9 := cells_get (HF9.out _ hbel) 2
            have hl9 := lt_of_block (HF9.out _ hbel)
            simp at z9
            clear hbld hit hbel HD0 HB0
            by_cases hlt : s < m5
            · obtain ⟨b, hb⟩ : ∃ b, b = s * m1 := ⟨_, rfl⟩
              rw [← hb] at HD HI
              have HRS2 := Lib.hid (fun W (hbb : KQ W1 W) i (hi : i < m1) => HRS.out W hbb s hlt i hi)
              have HRR2 := Lib.hid (HRR.out s)
              rw [← hb] at HRS2 HRR2
              obtain ⟨br, or, cr, hrc⟩ := HRC.out s hlt
              have HRI := Lib.hid hrc
              have HPS := Lib.hid (show ∀ i, i < m1 → b + i < nm from fun i hi => by rw [hb]; exact HPB.out s i hlt hi)
              have HBE := Lib.hid hb
              clear hb hrc
              go_wp2_with fail
              clear z9 hl9
              go_loopw [13, 14, 15, 16, 17] (fun sI _ _ _ _ wr' => ∃ (i : Nat) (vb vn : Value) (items : List (Value × List Value)), i ≤ m1 ∧ sI = .int .i64 i ∧ Bld wr' N1 N1 (j : Int) 0 vb vn [] items ((List.range (b + i)).map fun x => Value.bool (ac x)) ∧
                items.map Prod.snd = (List.range (b + i)).map (fun x => tv m2 (rr x)) ∧ KQ W1 wr') (fun sI _ _ _ _ _ => m1 - (intOf sI).toNat)
              case atStart => exact ⟨0, _, _, _, Nat.zero_le _, rfl, HD.out, HI.out, HB.out⟩
              case round =>
                obtain ⟨i, vb, vn, items, hi, rfl, hbld, hit, hbel⟩ := hrel
                have HDA := Lib.hid hbld
                have HIA := Lib.hid hit
                have HBA := Lib.hid hbel
                clear hbld hit hbel HD HI HB
                by_cases hli : i < m1
                · obtain ⟨d, hd⟩ : ∃ d, d = (digs u).getD i 2 := ⟨_, rfl⟩
                  obtain ⟨nx, hnx⟩ : ∃ nx, nx = min (i + 1) u.size := ⟨_, rfl⟩
                  have hd2 : d ≤ 2 := by rw [hd]; exact HDL.out i
                  have hnx1 : nx ≤ 40 := by omega
                  have HR3 := Lib.hid (fun c => HRR2.out i c hli)
                  have HC3 := Lib.hid (HCOL.out i)
                  rw [← hd, ← hnx] at HR3
                  rw [← hd] at HC3
                  have HNX := Lib.hid (show (i < u.size → nx = i + 1) ∧ (¬ i < u.size → nx = i) from ⟨fun h => by omega, fun h => by omega⟩)
                  have HDD := Lib.hid hd
                  clear hd hnx
                  have hws : IntKind.i64.wrap ((m1 : Int) - 1) = (u.size : Int) := by
                    rw [show (m1 : Int) - 1 = ((u.size : Nat) : Int) by omega]
                    exact (FixRule.wrap_small u.size (by omega)).1
                  go_upto_if 67 with fail
                  go_cut [14, 15] (fun v14 v15 wx => v14 = .int .i64 (d : Nat) ∧ v15 = .int .i64 (nx : Nat) ∧ wx = wr)
                  case first =>
                    by_cases hiu : i < u.size
                    · obtain ⟨d', hd2', -, hdg, hch⟩ := HDG.out i hiu
                      have hde : d' = d := by
                        rw [HDD.out, ← hdg]; simp [List.getD, show i < (digs u).length by rw [digs_len]; exact hiu]
                      have hsub : IntKind.u8.wrap ((u[i].toNat : Int) - 97) = (d : Int) := by
                        rw [hch, ← hde]
                        have : d' = 0 ∨ d' = 1 := by omega
                        rcases this with rfl | rfl <;> rfl
                      have hcv : IntKind.i64.wrap (d : Int) = (d : Int) := (FixRule.wrap_small d (by omega)).1
                      have hnn := HNX.out.1 hiu
                      have hxx : IntKind.i64.wrap ((i : Int) + 1) = (nx : Int) := by
                        rw [show (i : Int) + 1 = ((nx : Nat) : Int) by omega]
                        exact (FixRule.wrap_small nx (by omega)).1
                      clear hdg hch hde hd2' hnn
                      go_wp2_with fail
                      go_meet
                      exact ⟨rfl, rfl, rfl⟩
                    · have hnn := HNX.out.2 hiu
                      subst hnn
                      have hdd : d = 2 := by rw [HDD.out, show nx = u.size by omega]; exact HDE.out
                      subst hdd
                      go_wp2_with fail
                      go_meet
                      exact ⟨rfl, rfl, rfl⟩
                  case rest =>
                    obtain ⟨rfl, rfl, rfl⟩ := hcut
                    have HP5 := Lib.hid (HPS.out i hli)
                    obtain ⟨g, hg⟩ : ∃ g, g = wc.heap.size := ⟨_, rfl⟩
                    have HNW := Lib.hid (show N1 ≤ wc.heap.size by rw [HN1.out]; exact HBA.out.size)
                    have HD1 := Lib.hid (show Bld (wc.alloc (.cells #[] 2)) N1 N1 (j : Int) 0 vb vn [(.slice (some ⟨g, 0, none⟩) 0 0, tv 0 (rr (b + i)))] items ((List.range (b + i)).map fun x => Value.bool (ac x)) from by
                      rw [hg]
                      exact HDA.out.addInt ((Below.refl _ _).alloc (Nat.le_refl _) _) (Lst.empty wc N1 2 HNW.out) (fun q hq => by cases hq; exact Nat.le_refl _))
                    have HB1 := Lib.hid (show KQ W1 (wc.alloc (.cells #[] 2)) from Below.alloc HBA.out HBA.out.size _)
                    go_wp2_with fail
                    rw [← hg]
                    clear hg
                    go_loopw [16, 17] (fun sR sC wr' => ∃ (c : Nat) (a9 : Option Addr) (cp9 : Nat), c ≤ m2 ∧ sC = .int .i64 c ∧ sR = .slice a9 c cp9 ∧ Bld wr' N1 N1 (j : Int) 0 vb vn [(.slice a9 c cp9, tv c (rr (b + i)))] items ((List.range (b + i)).map fun x => Value.bool (ac x)) ∧ KQ W1 wr') (fun _ sC _ => m2 - (intOf sC).toNat)
                    case atStart => exact ⟨0, _, _, Nat.zero_le _, rfl, rfl, HD1.out, HB1.out⟩
                    case round =>
                      obtain ⟨c, a9, cp9, hc, rfl, rfl, hbld, hbel⟩ := hrel
                      have HD2 := Lib.hid hbld
                      have HB2 := Lib.hid hbel
                      have hl1 := hbld.lt
                      have q10 := cells_get hbld.at_ 0
                      simp at q10
                      clear hbld hbel HD1 HB1
                      by_cases hlc : c < m2
                      · obtain ⟨y, hy⟩ : ∃ y, y = withN kn t d c := ⟨_, rfl⟩
                        have hym := HC3.out c hlc
                        have HPC := Lib.hid (fun W => HWC.out W c d hlc hd2)
                        have hrv := HR3.out c
                        rw [← hy] at hym HPC hrv
                        obtain ⟨z, hz⟩ : ∃ z, z = (T.nx.getD s []).getD y 0 := ⟨_, rfl⟩
                        have hzn : z < m5 := by rw [hz]; exact HYB.out s hlt y hym
                        have hzm : z * m1 < nm := by have := HPB.out z 0 hzn (by omega); omega
                        rw [← hz] at hrv
                        obtain ⟨p, hp⟩ : ∃ p, p = z * m1 := ⟨_, rfl⟩
                        rw [← hp] at hrv hzm
                        have hp1 : p ≤ 1000 := by have := HLM.out; omega
                        obtain ⟨x5, hx5⟩ : ∃ x5, x5 = p + nx := ⟨_, rfl⟩
                        have HXE := Lib.hid (show rr (b + i) c = ((x5 : Nat) : Int) from by rw [hrv, hx5])
                        have hwp : IntKind.i64.wrap ((z : Int) * (m1 : Int)) = (p : Int) := by
                          rw [show (z : Int) * (m1 : Int) = (p : Int) by rw [hp]; exact (Int.natCast_mul _ _).symm]
                          exact (FixRule.wrap_small p (by omega)).1
                        have hwq : IntKind.i64.wrap ((p : Int) + (nx : Int)) = (x5 : Int) := by
                          rw [show (p : Int) + (nx : Int) = ((x5 : Nat) : Int) by omega]
                          exact (FixRule.wrap_small x5 (by omega)).1
                        have HRX := Lib.hid (show ∀ W, KQ W1 W → W.cell? ⟨bm, om + s, none⟩ = some (.slice (some ⟨br, or, none⟩) m cr) ∧ W.cell? ⟨br, or + y, none⟩ = some (.int .i64 (z : Nat)) ∧ W.cell? ⟨N9, 3, none⟩ = some (.slice (some ⟨bm, om, none⟩) m5 d5) ∧ W.cell? ⟨w.heap.size, 0, none⟩ = some (.int .i64 (kn : Nat)) from fun W hW =>
                          ⟨(HRI.out W hW).1, by rw [(HRI.out W hW).2 y hym, hz], by rw [cells_get (HF9.out W hW)]; rfl, by rw [cells_get (K0.box (HFK.out W hW))]; rfl⟩)
                        obtain ⟨x1, x2, x3, x4⟩ := HRX.out _ HB2.out
                        have HSZ2 := Lib.hid (show N1 ≤ wr.heap.size by rw [HN1.out]; exact HB2.out.size)
                        clear hy hz hrv hp hx5 hzm
                        go_wp2_with (go_at_call 23; refine (HW.out _).mono ?_; rintro e w' ⟨rfl, rfl⟩)
                        go_region_law
                          (first
                            | (refine step_push (by rfl) _ _ 45 (by rfl) 2 (.int .i64 0) 8 Tryd.underlying45 info2 (by decide) (by decide) N1 (.slice a9 c cp9) _ (.int .i64 (x5 : Nat)) (Own.get [] _ HD3.out.own) HSZ3.out (by rfl) (by rw [tv_length]; omega) (by rfl) _ (by rfl) (by rfl) ?_; intro v5 w5 hp5; obtain ⟨a6, n6, cp6, rfl, HN6⟩ := hp5.lst.shape'; have HE5 := Lib.hid (HD3.out.pushInt [] [] hp5); have HB5 := Lib.hid (Below.grown HB3.out hp5.grow HB3.out.size (fun q hq => by have := (Own.get [] _ HD3.out.own).ge hq; rw [← HN1.out]; exact this)); clear hp5)
                            | (go_simp; go_at_call 24; refine (HPC.out _).mono ?_; rintro e w3 ⟨rfl, mm, hw3⟩; have HD3 : Hid (Bld w3 N1 N1 (j : Int) 0 vb vn [(.slice a9 c cp9, tv c (rr (b + i)))] items ((List.range (b + i)).map fun x => Value.bool (ac x))) := (by rw [hw3]; first | exact Lib.hid (HD2.out.drewN mm) | exact Lib.hid (HD2.out.drew.drewN mm)); have HB3 : Hid (KQ W1 w3) := (by rw [hw3]; first | exact Lib.hid (below_drewN HB2.out mm) | exact Lib.hid (below_drewN HB2.out.drew mm)); have HSZ3 := Lib.hid (show N1 ≤ w3.heap.size by rw [HN1.out]; exact HB3.out.size); obtain ⟨y1, y2, y3, y4⟩ := HRX.out _ HB3.out; clear hw3; try dsimp only))
                        all_goals
                          go_wp2_with fail
                          go_roundw
                          case rel =>
                            have h5 : n6 = c + 1 := by rw [HN6.out, List.length_append, tv_length]; rfl
                            subst h5
                            have h1 := HE5.out
                            rw [← HXE.out, tv_snoc c (rr (b + i))] at h1
                            exact ⟨c + 1, _, _, hlc, by go_num, rfl, h1, HB5.out⟩
                          case measure => simp [intOf]; omega
                      · obtain rfl : c = m2 := by omega
                        have HRS3 := Lib.hid (fun W hW => HRS2.out W hW i hli)
                        obtain ⟨ub, hub⟩ : ∃ ub, ub = ac (b + i) := ⟨_, rfl⟩
                        rw [← hub] at HRS3
                        have HUB := Lib.hid hub
                        have HAL := Lib.hid (show ((List.range (b + i)).map fun x => Value.bool (ac x)).length ≤ 100000000 from by rw [List.length_map, List.length_range]; have := HP5.out; have := HLM.out; omega)
                        have HIL := Lib.hid (show (items.map Prod.fst).length ≤ 100000000 from by
                          have h3 := congrArg List.length HIA.out
                          rw [List.length_map, List.length_map, List.length_range] at h3
                          rw [List.length_map]; have := HP5.out; have := HLM.out; omega)
                        obtain ⟨av, nv, cv, rfl, -⟩ := HD2.out.acc.shape'
                        have HSZ2 := Lib.hid (show N1 ≤ wr.heap.size by rw [HN1.out]; exact HB2.out.size)
                        have hsl : ∀ W, (Instr.slice 9 (.string u) (some (.int .i64 (i : Int))) none none).run Tryd.prog W = .ok (.string (u.extract i u.size)) W := fun W => run_slice_from W 9 u i Tryd.underlying9 (by omega)
                        have q12 := HD2.out.c2
                        have zf2 := cells_free HD2.out.at_ 2
                        clear hub
                        go_upto_region 27 with (go_at_call 23; refine (HW.out _).mono ?_; rintro e w' ⟨rfl, rfl⟩)
                        go_cut [] (fun wx => ∃ va', Bld wx N1 N1 (j : Int) 0 va' vn [(.slice a9 c cp9, tv c (rr (b + i)))] items (((List.range (b + i)).map fun x => Value.bool (ac x)) ++ [.bool ub]) ∧ KQ W1 wx)
                        case first =>
                          go_region_law
                            (first
                              | (refine step_push (by rfl) _ _ 22 (by rfl) 4 (.bool false) 1 Tryd.underlying22 info4 (by decide) (by decide) N1 (.slice av nv cv) _ (.bool ub) HD3.out.acc HSZ3.out (by rfl) HAL.out (by rfl) _ (by rfl) (by rfl) ?_; intro v4 w4 hp4; obtain ⟨a4, n4, cp4, rfl, HN4⟩ := hp4.lst.shape'; have o4 := HD3.out.obAcc hp4; have q2 := (cells_get o4 2); have z2 := cells_free o4 2; have hl4 := (lt_of_block o4); have HE4 := Lib.hid (HD3.out.pushAcc hp4); have HB4 := Lib.hid ((HB3.out.grown hp4.grow HB3.out.size (fun q hq => by have := HD3.out.acc.ge hq; rw [← HN1.out]; exact this)).setCell (p := ⟨N1, 2, none⟩) (by show _ ≤ N1; rw [HN1.out]; exact Nat.le_refl _) (.slice a4 n4 cp4)); simp at q2; clear hp4 o4)
                              | (go_simp; go_at_call 25; (first | refine (HRS3.out wr HB2.out).mono ?_ | refine (HRS3.out wr.drew HB2.out.drew).mono ?_); rintro e w3 ⟨rfl, mm, hw3⟩; have HD3 : Hid (Bld w3 N1 N1 (j : Int) 0 (.slice av nv cv) vn [(.slice a9 c cp9, tv c (rr (b + i)))] items ((List.range (b + i)).map fun x => Value.bool (ac x))) := (by rw [hw3]; first | exact Lib.hid (HD2.out.drewN mm) | exact Lib.hid (HD2.out.drew.drewN mm)); have HB3 : Hid (KQ W1 w3) := (by rw [hw3]; first | exact Lib.hid (below_drewN HB2.out mm) | exact Lib.hid (below_drewN HB2.out.drew mm)); have HSZ3 := Lib.hid (show N1 ≤ w3.heap.size by rw [HN1.out]; exact HB3.out.size); have q32 := HD3.out.c2; have zf3 := cells_free HD3.out.at_ 2; have hl3 := HD3.out.lt; clear hw3; try dsimp only))
                          all_goals
                            go_wp2_with fail
                            go_meet
                            exact ⟨_, HE4.out, HB4.out⟩
                        case rest =>
                          obtain ⟨va4, hcb, hcb2⟩ := hcut
                          have HE4 := Lib.hid hcb
                          have HB4 := Lib.hid hcb2
                          obtain ⟨a0, n0, c0, rfl, -⟩ := hcb.nxt.shape'
                          have q3 := hcb.c3
                          have hl4 := hcb.lt
                          have z3 := cells_free hcb.at_ 3
                          have HSZ4 := Lib.hid (show N1 ≤ wc.heap.size by rw [HN1.out]; exact hcb2.size)
                          clear hcb hcb2 q12 zf2 q10 hl1 hsl
                          go_wp2_with (at_builtin; refine wpList_push rfl _ _ 23 rfl 45 (.slice none 0 0) 24 Tryd.underlying23 info54 (by decide) (by decide) N1 (.slice a0 n0 c0) _ (.slice a9 c cp9) HE4.out.nxt HSZ4.out rfl HIL.out rfl _ rfl rfl ?_; intro v5 w5 hp5; obtain ⟨a6, n6, cp6, rfl, HN6⟩ := hp5.lst.shape'; have o5 := HE4.out.obNext hp5; have q5 := (cells_get o5 3); have z5 := cells_free o5 3; have hl5 := (lt_of_block o5); have HE5 := Lib.hid (HE4.out.pushNext [] [] hp5); have HB5 := Lib.hid ((HB4.out.grown hp5.grow HB4.out.size (fun q hq => by have := HE4.out.nxt.ge hq; rw [← HN1.out]; exact this)).setCell (p := ⟨N1, 3, none⟩) (by show _ ≤ N1; rw [HN1.out]; exact Nat.le_refl _) (.slice a6 n6 cp6)); simp at q5; clear hp5 o5)
                          go_roundw
                          case rel =>
                            have h1 := HE5.out
                            rw [List.nil_append] at h1
                            have h3 : ((List.range (b + i)).map fun x => Value.bool (ac x)) ++ [.bool ub] = (List.range (b + (i + 1))).map fun x => Value.bool (ac x) := by rw [← Nat.add_assoc, List.range_succ, List.map_append, HUB.out]; rfl
                            rw [h3] at h1
                            refine ⟨i + 1, _, _, _, by omega, by go_num, h1, ?_, HB5.out⟩
                            rw [List.map_append, HIA.out, ← Nat.add_assoc, List.range_succ, List.map_append]; rfl
                          case measure => simp [intOf]; omega
                · obtain rfl : i = m1 := by omega
                  go_wp2_with fail
                  go_roundw
                  case rel => exact ⟨s + 1, _, _, _, hlt, by go_num, by rw [Nat.succ_mul, ← HBE.out]; exact HDA.out, by rw [Nat.succ_mul, ← HBE.out]; exact HIA.out, HBA.out⟩
                  case measure => simp [intOf]; omega
            · obtain rfl : s = m5 := by omega
              have HDZ := Lib.hid (show Bld wr N1 N1 (j : Int) 0 vb vn [] items ((List.range nm).map fun x => Value.bool (ac x)) from by rw [HNE.out]; exact HD.out)
              have HBU := Lib.hid (show Built wr N1 vb vn ((List.range nm).map ac) ((List.range nm).map fun x => (List.range m2).map (rr x)) from Built.of_bld HDZ.out (by rw [List.map_map]; rfl) (by
                rw [HI.out, ← HNE.out, List.map_map]
                refine List.map_congr_left fun x _ => ?_
                show tv m2 _ = List.map _ (List.map _ _)
                unfold tv; rw [List.map_map]; rfl))
              have HRPX := Lib.hid (show RelPtr wr wr.heap.size N1 (relOf (fixL T t (digs u))) from by
                rw [HX.out]
                obtain ⟨va', vn', e, h1, h2⟩ := HBU.out.reads wr.heap.size (Nat.le_refl _) j 0
                simp at e
                refine ⟨vb, vn, by rw [cells_get HDZ.out.at_]; rfl, by rw [cells_get HDZ.out.at_]; rfl, by rw [cells_get HDZ.out.at_]; rfl, by rw [cells_get HDZ.out.at_]; rfl, ?_, ?_⟩
                · rw [e.1]; exact h1
                · rw [e.2]; exact h2)
              have HT := Lib.hid (SpecTidied.tidied (fixL T t (digs u)) HXO.out N1 wr wr.heap.size HRPX.out (Nat.le_refl _) HDZ.out.lt (by rw [HXN.out]; have := HLM.out; omega))
              have HTM := Lib.hid (show (tidyAcc (fixL T t (digs u))).length ≤ 1000000 from tidy_most HXO.out (by rw [HXN.out]; have := HLM.out; omega))
              obtain ⟨eC, eK, eA, eN⟩ := HYS.out
              have HTL := Lib.hid (fun a4 b4 n4 c4 m4 d4 W B hbu => ToldI.toldI (fixL T t (digs u)) HTM.out a4 b4 n4 c4 m4 d4 W B hbu)
              rw [← eC, ← eK, ← eA, ← eN] at HTL
              obtain ⟨kk, hkk⟩ : ∃ y : Int, y = ((fixL T t (digs u)).k : Nat) := ⟨_, rfl⟩
              rw [← hkk] at HTL HT
              have HKR := Lib.hid (HFK.out _ HB.out)
              clear eC eK eA eN HYS hkk HBU HRPX HTM HXO HXN HXK HX
              go_wp2_with fail
              refine HT.out.mono ?_
              rintro e w4 ⟨va, vn', rfl, hbu, hb4⟩
              obtain ⟨a4, n4, c4, rfl, -⟩ := hbu.acc.shape'
              obtain ⟨items4, -, hnx4, -⟩ := hbu.rows
              obtain ⟨b4, m4, d4, rfl, -⟩ := hnx4.shape'
              have HK5' := Lib.hid (HST.out _ _ HKR.out hb4)
              have HO := Lib.hid (HTL.out a4 b4 n4 c4 m4 d4 w4 _ hbu)
              clear hbu hb4 hnx4 HT HTL z9 hl9
              go_wp2_with fail
              refine HO.out.mono ?_
              rintro e w5' ⟨va, vn', rfl, hbu, hb5⟩
              have HBU := Lib.hid (show Built w5' (w.heap.size + 2) va vn' cA cN from hbu.mono (K0.size HKR.out))
              obtain ⟨a4, n4, c4, rfl, -⟩ := hbu.acc.shape'
              obtain ⟨items4, -, hnx4, -⟩ := hbu.rows
              obtain ⟨b4, m4, d4, rfl, -⟩ := hnx4.shape'
              have HK5b := Lib.hid (HST.out _ _ HK5'.out hb5)
              have r0 := cells_get (K0.res HK5b.out) 0
              have r1 := cells_get (K0.res HK5b.out) 1
              have r2 := cells_get (K0.res HK5b.out) 2
              have r3 := cells_get (K0.res HK5b.out) 3
              have f0 := cells_free (K0.res HK5b.out) 0
              have f1 := cells_free (K0.res HK5b.out) 1
              have f2 := cells_free (K0.res HK5b.out) 2
              have f3 := cells_free (K0.res HK5b.out) 3
              have hlS := lt_of_block (K0.res HK5b.out)
              simp at r0 r1 r2 r3
              clear hbu hb5 hnx4 HO
              go_wp2_with fail
              obtain ⟨g0, g1, g2, g3⟩ := res4 (a := .int .i64 cK) (b := .int .i64 0) (c := .slice a4 n4 c4) (d := .slice b4 m4 d4) (K0.res HK5b.out)
              refine bodyPost_ret (v := .tuple #[.agg #[.int .i64 cK, .int .i64 0, .slice a4 n4 c4, .slice b4 m4 d4], .int .i64 cC]) (by simp [results, Tryd.results7, go_sem, g0, g1, g2, g3]) rfl ⟨.slice a4 n4 c4, .slice b4 m4 d4, rfl, ?_, ?_⟩
              · exact (set4_built HBU.out (by omega)).mono (by omega)
              · exact set4_below (K0.base HK5b.out) (Nat.le_succ _)
          -- }fast
      · obtain ⟨rfl, rfl, rfl, rfl⟩ := HN0.out h0
        have hcne : (cC != 0) = true := by simpa using h0
        clear HN0 HY0 HPTR HD2 HDD0
        go_wp2_with (first
          | (go_at_call 20; refine HWW.out.mono ?_; rintro e w' ⟨rfl, rfl⟩)
          | (go_at_call 21; refine HDD.out.mono ?_; rintro e w4 ⟨rfl, mb, hw4⟩; have HK4 : Hid (K0 w #[.int .i64 k, .int .i64 st, .slice aa na ca, .slice ab nb cb] w4) := (by rw [hw4]; exact Lib.hid (below_drewN HK3.out mb)); clear hw4 r0 r1 r2 r3 f0 f1 f2 f3 hlS x0 x1 x2 x3; have r0 := cells_get (K0.res HK4.out) 0; have r1 := cells_get (K0.res HK4.out) 1; have r2 := cells_get (K0.res HK4.out) 2; have r3 := cells_get (K0.res HK4.out) 3; have f0 := cells_free (K0.res HK4.out) 0; have f1 := cells_free (K0.res HK4.out) 1; have f2 := cells_free (K0.res HK4.out) 2; have f3 := cells_free (K0.res HK4.out) 3; have hlS := lt_of_block (K0.res HK4.out); simp at r0 r1 r2 r3))
        obtain ⟨g0, g1, g2, g3⟩ := res4 (a := .int .i64 0) (b := .int .i64 0) (c := .slice none 0 0) (d := .slice none 0 0) (K0.res HK4.out)
        refine bodyPost_ret (v := .tuple #[.agg #[.int .i64 0, .int .i64 0, .slice none 0 0, .slice none 0 0], .int .i64 cC]) (by simp [results, Tryd.results7, go_sem, g0, g1, g2, g3]) rfl ⟨.slice none 0 0, .slice none 0 0, rfl, ImplTidied.built_none _ _, ?_⟩
        exact set4_below (K0.base HK4.out) (Nat.le_succ _)
end Go.Proofs.YtcpcbmappcndcaaDoor.FixS
