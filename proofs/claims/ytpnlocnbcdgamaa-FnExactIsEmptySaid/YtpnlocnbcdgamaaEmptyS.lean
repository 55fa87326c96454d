
/- What the model answers that is asked whether a relation has no tuples.
   Conditions: the relation is read as XMem's text says. -/
import Derived.Test.YtpnlocnbcdgamaaFirstS
import Derived.Test.YtpnlocnbcdgamaaEmptyI
import Derived.Test.YtpnlocnbcdgamaaEqS
import Derived.Test.YtpnlocnbcdgamaaResKit
namespace Go.Proofs.Ytpnlocnbcdgamaa.EmptyS
set_option linter.unusedVariables false
set_option linter.unusedSimpArgs false
set_option linter.ambiguousOpen false
set_option maxRecDepth 100000
open Go.RowKit Mem Copy Rel Valid Heap Columns Bld ToL TidyMath TidyClass TidyAuto TidyRight SpecFiner SpecRight SpecTidied PairMath First FirstTidy FirstI FirstK FirstS Alike EqI EqS EmptyK EmptyI ResKit

/-- A built relation in a block is a relation behind a pointer. -/
theorem built_ptr {W : World} {B X : Nat} {k st : Int} {va vn : Value} {A : List Bool} {N : List (List Int)} (hb : Built W B va vn A N) (hat : W.heap[X]? = some (.cells #[.int .i64 k, .int .i64 st, va, vn] 29 (0, 0))) : RelPtr W W.heap.size X ⟨k, st, A, N⟩ := by
  obtain ⟨va', vn', ev, hva, hvn⟩ := hb.reads W.heap.size (Nat.le_refl _) 0 0
  simp at ev
  obtain ⟨rfl, rfl⟩ := ev
  have y0 := cells_get hat 0
  have y1 := cells_get hat 1
  have y2 := cells_get hat 2
  have y3 := cells_get hat 3
  simp at y0 y1 y2 y3
  exact ⟨_, _, y0, y1, y2, y3, hva, hvn⟩


set_option maxHeartbeats 8000000 in
theorem emptyS (v : Value) (r : R) (w : World) (B : Nat) (h : RelAt w B v r) (hB : B ≤ w.heap.size) :
    Calls Try.prog 21 #[v] w fun e w' => e = .returned (.tuple #[.bool (emptyV r), .int .i64 (emptyC r)]) ∧ Below w.heap.size w w' := by
  have hR := h
  obtain ⟨va, vn, rfl, ha, hn⟩ := h
  obtain ⟨aa1, ba, oa, ca1, rfl, -, -, -⟩ := ha
  obtain ⟨-, ⟨ab1, bb, ob, cb1, rfl, -, -, -⟩, -⟩ := hn
  obtain ⟨c, hc⟩ : ∃ c : Array Value, c = #[.int .i64 r.tapes, .int .i64 r.start, .slice aa1 r.accept.length ca1, .slice ab1 r.next.length cb1] := ⟨_, rfl⟩
  have HP1 := Lib.hid (fun W (hk : E1 w c W) => box_ptr hR hB (E1.base hk) (by rw [← hc]; exact E1.box hk))
  have HV1 := Lib.hid (fun W (hk : E1 w c W) => specOk r w.heap.size W W.heap.size (HP1.out W hk))
  have HTI := Lib.hid (fun (h0 : okB r = true) => (show (toL r).Ok ∧ relOf (toL r) = r ∧ (toL r).acc.length ≤ 150 from by
    have e1 := okL' h0
    exact ⟨e1.1.2, e1.1.1, e1.2⟩))
  have HT1 := Lib.hid (fun (h0 : okB r = true) W (hk : E1 w c W) => tidied (toL r) (HTI.out h0).1 w.heap.size W W.heap.size (by rw [(HTI.out h0).2.1]; exact HP1.out W hk) (Nat.le_refl _) (by have := E1.size hk; omega) (by have := (HTI.out h0).2.2; omega))
  have HF3 := Lib.hid (fun (h0 : okB r = true) W X (h1 : RelPtr W W.heap.size X ⟨(toL r).k, 0, tidyAcc (toL r), tidyNext (toL r)⟩) (hX : X < W.heap.size) => show Calls Try.prog 44 #[.pointer (some ⟨X, 0, none⟩)] W fun e w' => ∃ a n c, e = .returned (.tuple #[.slice a n c, .bool (firstX (tidL (toL r))).isSome]) ∧ Below W.heap.size W w' from by
    obtain ⟨e1, e2, e3⟩ := HTI.out h0
    refine (FirstS.first (tidL (toL r)) (tidL_ok e1) X W W.heap.size (by rw [tidL_rel]; exact h1) (Nat.le_refl _) hX (by show (tidyAcc (toL r)).length ≤ _; have := tidyAcc_len e1; omega)).mono fun e w' hans => ?_
    rcases hans with ⟨vc, c, h1, -, h3, h4, h5⟩ | ⟨h1, a, c, h2, h3⟩
    · obtain ⟨a5, n5, c5, rfl, -⟩ := h4.shape'
      exact ⟨a5, n5, c5, by rw [h3, h1]; rfl, h5⟩
    · exact ⟨a, 0, c, by rw [h2, h1]; rfl, h3⟩)
  have HE0 := Lib.hid (show okB r = false → emptyV r = false ∧ emptyC r = 1 from fun h => by simp [emptyV, emptyC, h])
  have HE1 := Lib.hid (show okB r = true → emptyC r = 0 ∧ emptyV r = !(firstX (tidL (toL r))).isSome from fun h => by simp [emptyV, emptyC, h])
  obtain ⟨AP, hAP⟩ : ∃ x, x = (firstX (tidL (toL r))).isSome := ⟨_, rfl⟩
  obtain ⟨V, hV⟩ : ∃ x, x = emptyV r := ⟨_, rfl⟩
  obtain ⟨C, hC⟩ : ∃ x, x = emptyC r := ⟨_, rfl⟩
  obtain ⟨q, hq⟩ : ∃ x, x = okB r := ⟨_, rfl⟩
  rw [← hAP] at HF3 HE1
  rw [← hV, ← hC] at HE0 HE1
  rw [← hq] at HV1 HT1 HF3 HE0 HE1
  rw [← hV, ← hC]
  obtain ⟨k1, hk1⟩ : ∃ x : Int, x = (toL r).k := ⟨_, rfl⟩
  obtain ⟨A1, hA1⟩ : ∃ x, x = tidyAcc (toL r) := ⟨_, rfl⟩
  obtain ⟨N1, hN1⟩ : ∃ x, x = tidyNext (toL r) := ⟨_, rfl⟩
  rw [← hk1, ← hA1, ← hN1] at HT1 HF3
  clear hAP hV hC hq hk1 hA1 hN1 hR HTI HP1 hB
  have HK0 := Lib.hid (show E1 w c (w.alloc (.cells c 29)) from Below.refl _ _)
  have HC0 := Lib.hid (HV1.out _ HK0.out)
  rw [hc] at HC0
  go_enter Try.func21, Try.ntmps21
  go_wp2_with fail
  refine HC0.out.mono ?_
  rw [← hc]
  rintro e w3 ⟨rfl, m, rfl⟩
  have HK3 := Lib.hid (show E1 w c ((w.alloc (.cells c 29)).drewN m) from below_drewN (Below.refl _ _) m)
  generalize (w.alloc (.cells c 29)).drewN m = w3 at HK3 ⊢
  clear HC0 HK0 HV1 hc
  cases q with
  | false =>
    obtain ⟨rfl, rfl⟩ := HE0.out rfl
    clear HT1 HF3 HE0 HE1
    go_wp2_with fail
    go_ret2
    exact ⟨rfl, E1.base HK3.out⟩
  | true =>
    have HC1 := Lib.hid (HT1.out rfl w3 HK3.out)
    have HFF := Lib.hid (HF3.out rfl)
    obtain ⟨rfl, hVE⟩ := HE1.out rfl
    have HVE := Lib.hid hVE
    clear HT1 HF3 HE0 HE1 hVE
    go_wp2_with fail
    refine HC1.out.mono ?_
    rintro e w7 ⟨va, vn, rfl, hbu, hb7⟩
    have HK7 := Lib.hid (E1.go HK3.out hb7)
    have HBU7 := Lib.hid hbu
    obtain ⟨a7, n7, c7, rfl, -⟩ := hbu.acc.shape'
    obtain ⟨items7, -, hnx7, -⟩ := hbu.rows
    obtain ⟨b7, m7, d7, rfl, -⟩ := hnx7.shape'
    have HC4 := Lib.hid (HFF.out (w7.alloc (.cells #[.int .i64 k1, .int .i64 0, .slice a7 n7 c7, .slice b7 m7 d7] 29)) w7.heap.size (built_ptr (HBU7.out.below ((Below.refl _ _).alloc (Nat.le_refl _) _)) (heap_alloc_new _ _)) (by rw [size_alloc']; exact Nat.lt_succ_self _))
    have HK8 := Lib.hid (show E1 w c (w7.alloc (.cells #[.int .i64 k1, .int .i64 0, .slice a7 n7 c7, .slice b7 m7 d7] 29)) from Below.alloc HK7.out (E1.size HK7.out) _)
    clear hbu hb7 hnx7 HC1 HFF
    go_wp2_with fail
    refine HC4.out.mono ?_
    rintro e w9 ⟨a9, n9, c9, rfl, hb9⟩
    have HB9 := Lib.hid (E1.base (E1.go HK8.out hb9))
    clear hb9 HC4
    go_wp2_with fail
    go_ret2
    exact ⟨by rw [HVE.out]; rfl, HB9.out⟩
end Go.Proofs.Ytpnlocnbcdgamaa.EmptyS
