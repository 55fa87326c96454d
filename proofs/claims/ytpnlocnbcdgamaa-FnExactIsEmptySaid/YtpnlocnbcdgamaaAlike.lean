
/- The code of two relations that are asked about, the program's and the model's.
   Conditions: the relations are read as XMem's text says. -/
import Derived.Test.YtpnlocnbcdgamaaToL
import Derived.Test.YtpnlocnbcdgamaaValidImpl
import Derived.Test.YtpnlocnbcdgamaaBld
import Derived.BigQuiet
import Derived.Deep.QuietTactic
namespace Go.Proofs.Ytpnlocnbcdgamaa.Alike
set_option linter.unusedVariables false
set_option linter.unusedSimpArgs false
set_option maxRecDepth 100000
open Go.RowKit Mem Copy Rel Valid Heap Columns Bld ToL

abbrev K2 (w : World) (c d : Array Value) (W : World) : Prop := Below (w.heap.size + 2) ((w.alloc (.cells c 29)).alloc (.cells d 29)) W
theorem K2.size {w W : World} {c d : Array Value} (h : K2 w c d W) : w.heap.size + 2 ≤ W.heap.size := by have := Below.size h; rw [size_alloc', size_alloc'] at this; exact this
theorem K2.base {w W : World} {c d : Array Value} (h : K2 w c d W) : Below w.heap.size w W :=
  (base_box (base_box (Below.refl _ w) _) _).trans (Below.mono h (by omega))
theorem K2.box1 {w W : World} {c d : Array Value} (h : K2 w c d W) : W.heap[w.heap.size]? = some (.cells c 29 (0, 0)) := by
  rw [Below.block h _ (by omega), Below.heap_alloc _ _ _ (by rw [size_alloc']; omega)]; exact heap_alloc_new _ _
theorem K2.box2 {w W : World} {c d : Array Value} (h : K2 w c d W) : W.heap[w.heap.size + 1]? = some (.cells d 29 (0, 0)) := by
  rw [Below.block h _ (by omega)]
  have := heap_alloc_new (w.alloc (.cells c 29)) (.cells d 29)
  rwa [size_alloc'] at this

/-- The code for two relations. -/
def alikeC (r s : R) : Int := if okB r = true then (if okB s = true then (if r.tapes = s.tapes then 0 else 2) else 1) else 1

set_option maxHeartbeats 8000000 in
theorem alikeI (v u : Value) (r s : R) (w : World) (B : Nat) (h : RelAt w B v r) (h' : RelAt w B u s) (hB : B ≤ w.heap.size) :
    Calls Try.prog 46 #[v, u] w fun e w' => e = .returned (.int .i64 (alikeC r s)) ∧ Below w.heap.size w w' := by
  have HV1 := Lib.hid (fun W (hb : Below w.heap.size w W) => ValidImpl.implValid v r W B (h.below hb hB) (Nat.le_trans hB hb.size))
  have HV2 := Lib.hid (fun W (hb : Below w.heap.size w W) => ValidImpl.implValid u s W B (h'.below hb hB) (Nat.le_trans hB hb.size))
  have HE1 := Lib.hid (show okB r = false → alikeC r s = 1 from fun h => by simp [alikeC, h])
  have HE2 := Lib.hid (show okB r = true → okB s = false → alikeC r s = 1 from fun h h2 => by simp [alikeC, h, h2])
  have HE3 := Lib.hid (show okB r = true → okB s = true → r.tapes ≠ s.tapes → alikeC r s = 2 from fun h h2 h3 => by simp [alikeC, h, h2, h3])
  have HE4 := Lib.hid (show okB r = true → okB s = true → r.tapes = s.tapes → alikeC r s = 0 from fun h h2 h3 => by simp [alikeC, h, h2, h3])
  obtain ⟨C, hC⟩ : ∃ x, x = alikeC r s := ⟨_, rfl⟩
  rw [← hC] at HE1 HE2 HE3 HE4
  rw [← hC]
  obtain ⟨q1, hq1⟩ : ∃ x, x = okB r := ⟨_, rfl⟩
  obtain ⟨q2, hq2⟩ : ∃ x, x = okB s := ⟨_, rfl⟩
  rw [← hq1] at HV1 HE1 HE2 HE3 HE4
  rw [← hq2] at HV2 HE2 HE3 HE4
  clear hC hq1 hq2
  obtain ⟨va, vn, rfl, ha, hn⟩ := h
  obtain ⟨aa1, ba, oa, ca1, rfl, -, -, -⟩ := ha
  obtain ⟨-, ⟨ab1, bb, ob, cb1, rfl, -, -, -⟩, -⟩ := hn
  obtain ⟨va, vn, rfl, ha, hn⟩ := h'
  obtain ⟨aa2, ba, oa, ca2, rfl, -, -, -⟩ := ha
  obtain ⟨-, ⟨ab2, bb, ob, cb2, rfl, -, -, -⟩, -⟩ := hn
  obtain ⟨k1, hk⟩ : ∃ x, x = r.tapes := ⟨_, rfl⟩
  obtain ⟨st1, hst⟩ : ∃ x, x = r.start := ⟨_, rfl⟩
  obtain ⟨na1, hna⟩ : ∃ x, x = r.accept.length := ⟨_, rfl⟩
  obtain ⟨nb1, hnb⟩ : ∃ x, x = r.next.length := ⟨_, rfl⟩
  rw [← hk, ← hst, ← hna, ← hnb] at HV1
  rw [← hk] at HE3 HE4
  rw [← hk, ← hst, ← hna, ← hnb]
  clear hk hst hna hnb
  obtain ⟨k2, hk⟩ : ∃ x, x = s.tapes := ⟨_, rfl⟩
  obtain ⟨st2, hst⟩ : ∃ x, x = s.start := ⟨_, rfl⟩
  obtain ⟨na2, hna⟩ : ∃ x, x = s.accept.length := ⟨_, rfl⟩
  obtain ⟨nb2, hnb⟩ : ∃ x, x = s.next.length := ⟨_, rfl⟩
  rw [← hk, ← hst, ← hna, ← hnb] at HV2
  rw [← hk] at HE3 HE4
  rw [← hk, ← hst, ← hna, ← hnb]
  clear hk hst hna hnb
  have HC1 := Lib.hid (HV1.out ((w.alloc (.cells #[.int .i64 k1, .int .i64 st1, .slice aa1 na1 ca1, .slice ab1 nb1 cb1] 29)).alloc (.cells #[.int .i64 k2, .int .i64 st2, .slice aa2 na2 ca2, .slice ab2 nb2 cb2] 29)) (base_box (base_box (Below.refl _ w) _) _))
  clear HV1 hB
  go_enter Try.func46, Try.ntmps46
  go_wp2_with fail
  refine HC1.out.mono ?_
  rintro e w3 ⟨rfl, hb3⟩
  rw [size_alloc', size_alloc'] at hb3
  have HK3 := Lib.hid (show K2 w #[.int .i64 k1, .int .i64 st1, .slice aa1 na1 ca1, .slice ab1 nb1 cb1] #[.int .i64 k2, .int .i64 st2, .slice aa2 na2 ca2, .slice ab2 nb2 cb2] w3 from hb3)
  have HW3 := Lib.hid (K2.base HK3.out)
  have hb1 := K2.box1 HK3.out
  have hb2 := K2.box2 HK3.out
  have x0 := cells_get hb1 0
  have y0 := cells_get hb2 0
  have y1 := cells_get hb2 1
  have y2 := cells_get hb2 2
  have y3 := cells_get hb2 3
  simp at x0 y0 y1 y2 y3
  clear hb3 hb1 hb2 HC1
  cases q1 with
  | false =>
    obtain rfl := HE1.out rfl
    clear HE1 HE2 HE3 HE4 HV2
    go_wp2_with fail
    go_ret
    exact ⟨rfl, HW3.out⟩
  | true =>
    have HC2 := Lib.hid (HV2.out w3 HW3.out)
    clear HV2
    go_wp2_with fail
    refine HC2.out.mono ?_
    rintro e w4 ⟨rfl, hb4⟩
    have HK4 := Lib.hid (show K2 w #[.int .i64 k1, .int .i64 st1, .slice aa1 na1 ca1, .slice ab1 nb1 cb1] #[.int .i64 k2, .int .i64 st2, .slice aa2 na2 ca2, .slice ab2 nb2 cb2] w4 from Below.trans HK3.out (hb4.mono (K2.size HK3.out)))
    have HW4 := Lib.hid (K2.base HK4.out)
    clear x0 y0 y1 y2 y3
    have hb1 := K2.box1 HK4.out
    have hb2 := K2.box2 HK4.out
    have x0 := cells_get hb1 0
    have y0 := cells_get hb2 0
    simp at x0 y0
    clear hb4 hb1 hb2 HC2
    cases q2 with
    | false =>
      obtain rfl := HE2.out (by trivial) rfl
      clear HE1 HE2 HE3 HE4
      go_wp2_with fail
      go_ret
      exact ⟨rfl, HW4.out⟩
    | true =>
      by_cases hkk : k1 = k2
      · obtain rfl := HE4.out (by trivial) (by trivial) hkk
        clear HE1 HE2 HE3 HE4
        subst hkk
        go_wp2_with fail
        go_ret
        exact ⟨rfl, HW4.out⟩
      · obtain rfl := HE3.out (by trivial) (by trivial) hkk
        clear HE1 HE2 HE3 HE4
        go_wp2_with fail
        go_ret
        exact ⟨rfl, HW4.out⟩

theorem alike_of {r s : R} (h : alikeC r s = 0) : okB r = true ∧ okB s = true ∧ r.tapes = s.tapes := by
  unfold alikeC at h
  by_cases h1 : okB r = true
  · rw [if_pos h1] at h
    by_cases h2 : okB s = true
    · rw [if_pos h2] at h
      by_cases h3 : r.tapes = s.tapes
      · exact ⟨h1, h2, h3⟩
      · rw [if_neg h3] at h; omega
    · rw [if_neg h2] at h; omega
  · rw [if_neg h1] at h; omega

set_option maxHeartbeats 8000000 in
theorem twoS (r s : R) (bp bq : Nat) (w : World) (B : Nat) (h : RelPtr w B bp r) (h' : RelPtr w B bq s) :
    Calls Try.prog 27 #[.pointer (some ⟨bp, 0, none⟩), .pointer (some ⟨bq, 0, none⟩)] w fun e w' => e = .returned (.int .i64 (alikeC r s)) ∧ ∃ m, w' = w.drewN m := by
  have HV1 := Lib.hid (fun m => specOk r bp (w.drewN m) B (h.drewN m))
  have HV2 := Lib.hid (fun m => specOk s bq (w.drewN m) B (h'.drewN m))
  have HV0 := Lib.hid (specOk r bp w B h)
  have HE1 := Lib.hid (show okB r = false → alikeC r s = 1 from fun h => by simp [alikeC, h])
  have HE2 := Lib.hid (show okB r = true → okB s = false → alikeC r s = 1 from fun h h2 => by simp [alikeC, h, h2])
  have HE3 := Lib.hid (show okB r = true → okB s = true → r.tapes ≠ s.tapes → alikeC r s = 2 from fun h h2 h3 => by simp [alikeC, h, h2, h3])
  have HE4 := Lib.hid (show okB r = true → okB s = true → r.tapes = s.tapes → alikeC r s = 0 from fun h h2 h3 => by simp [alikeC, h, h2, h3])
  obtain ⟨C, hC⟩ : ∃ x, x = alikeC r s := ⟨_, rfl⟩
  rw [← hC] at HE1 HE2 HE3 HE4
  rw [← hC]
  obtain ⟨q1, hq1⟩ : ∃ x, x = okB r := ⟨_, rfl⟩
  obtain ⟨q2, hq2⟩ : ∃ x, x = okB s := ⟨_, rfl⟩
  rw [← hq1] at HV0 HE1 HE2 HE3 HE4
  rw [← hq2] at HV2 HE2 HE3 HE4
  have x0 : w.cell? ⟨bp, 0, none⟩ = some (.int .i64 r.tapes) := by obtain ⟨-, -, c0, -⟩ := h; exact c0
  have y0 : w.cell? ⟨bq, 0, none⟩ = some (.int .i64 s.tapes) := by obtain ⟨-, -, c0, -⟩ := h'; exact c0
  obtain ⟨k1, hk1⟩ : ∃ x, x = r.tapes := ⟨_, rfl⟩
  obtain ⟨k2, hk2⟩ : ∃ x, x = s.tapes := ⟨_, rfl⟩
  rw [← hk1] at x0 HE3 HE4
  rw [← hk2] at y0 HE3 HE4
  have HX := Lib.hid (And.intro x0 y0)
  clear hC hq1 hq2 hk1 hk2 h h' HV1 x0 y0
  go_enter Try.func27, Try.ntmps27
  go_wp2_with fail
  refine HV0.out.mono ?_
  rintro e w3 ⟨rfl, m, rfl⟩
  cases q1 with
  | false =>
    obtain rfl := HE1.out rfl
    clear HE1 HE2 HE3 HE4 HV2 HV0
    go_wp2_with fail
    go_ret
    exact ⟨rfl, m, rfl⟩
  | true =>
    have HC2 := Lib.hid (HV2.out m)
    clear HV2 HV0
    go_wp2_with fail
    refine HC2.out.mono ?_
    rintro e w4 ⟨rfl, m2, rfl⟩
    have x0 : ((w.drewN m).drewN m2).cell? ⟨bp, 0, none⟩ = some (.int .i64 k1) := HX.out.1
    have y0 : ((w.drewN m).drewN m2).cell? ⟨bq, 0, none⟩ = some (.int .i64 k2) := HX.out.2
    have HW : Hid (∃ m3, (w.drewN m).drewN m2 = w.drewN m3) := Lib.hid ⟨m + m2, by unfold World.drewN; simp [Nat.add_assoc]⟩
    generalize (w.drewN m).drewN m2 = wq at x0 y0 HW ⊢
    clear HC2 HX
    cases q2 with
    | false =>
      obtain rfl := HE2.out (by trivial) rfl
      clear HE1 HE2 HE3 HE4
      go_wp2_with fail
      go_ret
      exact ⟨rfl, HW.out⟩
    | true =>
      by_cases hkk : k1 = k2
      · obtain rfl := HE4.out (by trivial) (by trivial) hkk
        clear HE1 HE2 HE3 HE4
        subst hkk
        go_wp2_with fail
        go_quiet (fail)
        go_wp2_with fail
        go_ret
        obtain ⟨m3, rfl⟩ := HW.out
        exact ⟨rfl, _, World.drewN_drewN ..⟩
      · obtain rfl := HE3.out (by trivial) (by trivial) hkk
        clear HE1 HE2 HE3 HE4
        have d4 : (k1 != k2) = true := by rw [bne_iff_ne]; exact hkk
        go_wp2_with fail
        go_quiet (fail)
        go_wp2_with fail
        go_ret
        obtain ⟨m3, rfl⟩ := HW.out
        exact ⟨rfl, _, World.drewN_drewN ..⟩

end Go.Proofs.Ytpnlocnbcdgamaa.Alike
