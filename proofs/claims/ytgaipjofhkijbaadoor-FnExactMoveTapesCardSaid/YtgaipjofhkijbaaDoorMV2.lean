
/- What the model's MoveTapes answers: a relation in memory of its own, and a code.
   Conditions: the relation and the list are read as XRel's text says. -/
import Derived.Test.YtgaipjofhkijbaaDoorIM14
import Derived.Test.YtgaipjofhkijbaaDoorMV1
import Derived.Test.YtgaipjofhkijbaaDoorIM25
import Derived.Deep.DeepCutAuto
import Derived.IntWalk
import Derived.Test.YtgaipjofhkijbaaDoorIM4
import Derived.Test.YtgaipjofhkijbaaDoorIM5
namespace Go.Proofs.YtgaipjofhkijbaaDoor.MoveS
set_option linter.unusedVariables false
set_option linter.unusedSimpArgs false
set_option linter.ambiguousOpen false
set_option maxRecDepth 100000
open Go.RowKit Go.Maps Mem Copy Rel Valid Heap Bld Columns ColMath SpecFiner Numbers TidyMath TidyAuto TidyRight SpecRight ToL SpecTidyRel ImplRight ImplTidied ErrCode OppImpl Automaton TapeMath TapeI AddI StepI TapeFn ToldI MovedS PutS AddFn OrdMath MoveFn

def metV (k : Nat) (o : List Int) (t : Nat) : List Value := (List.range k).map fun j => .bool (metB o t (j : Nat))
theorem metV_length (k : Nat) (o : List Int) (t : Nat) : (metV k o t).length = k := by simp [metV]
theorem metV_zero (k : Nat) (o : List Int) : metV k o 0 = List.replicate k (.bool false) := by
  unfold metV
  simp only [metB_zero]
  rw [List.map_const', List.length_range]
theorem metV_get (k : Nat) (o : List Int) (t m : Nat) (h : m < (metV k o t).length) : (metV k o t)[m] = .bool (metB o t (m : Nat)) := by simp [metV]
theorem metV_set {k : Nat} {o : List Int} {t m : Nat} (hx : o.getD t 0 = (m : Int)) : (metV k o t).set m (.bool true) = metV k o (t + 1) := by
  refine List.ext_getElem (by simp [metV]) fun j h1 h2 => ?_
  rw [List.getElem_set]
  by_cases e : m = j
  · rw [if_pos e, metV_get, metB_succ, hx, e]; simp
  · rw [if_neg e, metV_get, metV_get, metB_succ, hx]
    have : ((m : Int) == (j : Int)) = false := by simp; omega
    rw [this, Bool.or_false]
theorem ord_no' {k : Nat} {o : List Int} (h1 : 1 ≤ k) (h3 : k ≤ 3) {t : Nat} (ht : t ≤ o.length) (h : fineB k o t = false) : ordB k o = false := by
  by_cases e : o.length = k
  · exact ord_no h1 h3 (by omega) h
  · exact ord_len h1 h3 e

set_option maxHeartbeats 8000000 in
theorem specMove (v : Value) (r : R) (o : List Int) (ov : Value) (w : World) (B : Nat) (h : RelAt w B v r) (hov : Ints w B ov o) (hB : B ≤ w.heap.size) :
    Calls Tryd.prog 14 #[v, ov] w fun e w' => ∃ va vn, e = .returned (.tuple #[.agg #[.int .i64 (ansK (moveC r o) (moveL r o)), .int .i64 0, va, vn], .int .i64 (ansC (moveC r o) (moveL r o))]) ∧ Built w' w.heap.size va vn (ansA (moveC r o) (moveL r o)) (ansN (moveC r o) (moveL r o)) ∧ Below w.heap.size w w' := by
  have hR := h
  have HIN := Lib.hid (fun (hok : okB r = true) (h2 : ordB (toL r).k o = true) bp W (hb : Below w.heap.size w W) (hp : RelPtr W W.heap.size bp r) (hbp : bp < W.heap.size) => (show Calls Tryd.prog 27 #[.pointer (some ⟨bp, 0, none⟩), ov] W (fun e w' => ∃ va vn, e = .returned (.agg #[.int .i64 ((moveL r o).k : Nat), .int .i64 0, va, vn]) ∧ Built w' W.heap.size va vn (tidyAcc (moveL r o)) (tidyNext (moveL r o)) ∧ Below W.heap.size W w') from
    movedS r hok (o.map Int.toNat) (move_mem hok h2).1 bp ov W W.heap.size hp (by rw [(move_mem hok h2).2]; exact (hov.below hb hB).mono (Nat.le_trans hB hb.size)) (Nat.le_refl _) hbp))
  have HTL := Lib.hid (fun (hok : okB r = true) (h2 : ordB (toL r).k o = true) => (show (tidyAcc (moveL r o)).length ≤ 1000000 from by
    have e1 := okL hok
    exact tidy_most (l := moveL r o) (move_ok hok h2) (by show (toL r).acc.length ≤ _; have := e1.2; omega)))
  have HN1 := Lib.hid (fun (hok : okB r = false) => move_bad (o := o) hok)
  have HN2 := Lib.hid (fun (hok : okB r = true) h => move_far (r := r) (o := o) hok h)
  have HN3 := Lib.hid (fun (hok : okB r = true) h => move_good (r := r) (o := o) hok h)
  have HKE := Lib.hid (fun (hok : okB r = true) => (show r.tapes = ((toL r).k : Int) ∧ 1 ≤ (toL r).k ∧ (toL r).k ≤ 3 from ⟨move_k hok, (okL hok).1.2.k0, (okL hok).1.2.k3⟩))
  obtain ⟨ao, bo, oo, co, rfl, hmo, hao, hco⟩ := hov
  obtain ⟨n, hn⟩ : ∃ n, n = o.length := ⟨_, rfl⟩
  have HNO := Lib.hid (fun (h1 : 1 ≤ (toL r).k) (h3 : (toL r).k ≤ 3) t (ht : t ≤ n) => ord_no' (o := o) h1 h3 (t := t) (by rw [← hn]; exact ht))
  have HYE := Lib.hid (fun (h1 : 1 ≤ (toL r).k) (h3 : (toL r).k ≤ 3) (hl : n = (toL r).k) => ord_of_fine (o := o) h1 h3 (hn.symm.trans hl))
  have HLE := Lib.hid (fun (h1 : 1 ≤ (toL r).k) (h3 : (toL r).k ≤ 3) (hl : n ≠ (toL r).k) => ord_len (o := o) h1 h3 (by rw [← hn]; exact hl))
  rw [← hn] at hmo hao hco HIN ⊢
  have hmb : n ≤ 9223372036854775807 := by unfold maxLen at hmo; omega
  have HAO := Lib.hid (fun (h : 0 < n) => hao h)
  have HCO := Lib.hid (fun W (hb : Below w.heap.size w W) bq (e : ao = some ⟨bq, oo, none⟩) (hbq : bq < B) t (ht : t < n) => show W.cell? ⟨bq, oo + t, none⟩ = some (.int .i64 (o.getD t 0)) from by
    obtain ⟨e1, -⟩ := hao (by omega)
    rw [e1] at e; injection e with e; injection e with e
    subst e
    exact (hb.cell (p := ⟨bo, oo + t, none⟩) (Nat.lt_of_lt_of_le hbq hB)).trans (hco t ht))
  have HBW := Lib.hid hB
  clear hn hao hco
  obtain ⟨cC, hcC⟩ : ∃ x, x = ansC (moveC r o) (moveL r o) := ⟨_, rfl⟩
  obtain ⟨cK, hcK⟩ : ∃ x, x = ansK (moveC r o) (moveL r o) := ⟨_, rfl⟩
  obtain ⟨cA, hcA⟩ : ∃ x, x = ansA (moveC r o) (moveL r o) := ⟨_, rfl⟩
  obtain ⟨cN, hcN⟩ : ∃ x, x = ansN (moveC r o) (moveL r o) := ⟨_, rfl⟩
  rw [← hcC, ← hcK, ← hcA, ← hcN] at HN1 HN2 HN3 ⊢
  obtain ⟨L1, hL1⟩ : ∃ x, x = moveL r o := ⟨_, rfl⟩
  rw [← hL1] at HIN HN3 HTL
  obtain ⟨q, hq⟩ : ∃ x, x = okB r := ⟨_, rfl⟩
  have HV := Lib.hid (fun W bp (hp : RelPtr W W.heap.size bp r) => specOk r bp W W.heap.size hp)
  obtain ⟨nk, hnk⟩ : ∃ x, x = (toL r).k := ⟨_, rfl⟩
  rw [← hnk] at HIN HN2 HN3 HTL HKE HNO HYE HLE
  rw [← hq] at HV HIN HN1 HN2 HN3 HTL HKE
  clear hnk
  clear hcC hcK hcA hcN hL1 hq
  obtain ⟨va, vn, rfl, ha, hx⟩ := h
  have HPTR := Lib.hid (fun W (hW : K0 w #[.int .i64 r.tapes, .int .i64 r.start, va, vn] W) => box_ptr hR hB (K0.base hW) (K0.box hW))
  obtain ⟨aa, ba, oa, ca, rfl, -, -, -⟩ := ha
  obtain ⟨-, ⟨ab, bb, ob, cb, rfl, -, -, -⟩, -⟩ := hx
  obtain ⟨k, hk⟩ : ∃ k : Int, k = r.tapes := ⟨_, rfl⟩
  obtain ⟨st, hs⟩ : ∃ st : Int, st = r.start := ⟨_, rfl⟩
  obtain ⟨na, hna⟩ : ∃ na, na = r.accept.length := ⟨_, rfl⟩
  obtain ⟨nb, hnb⟩ : ∃ nb, nb = r.next.length := ⟨_, rfl⟩
  rw [← hk, ← hs, ← hna, ← hnb] at HPTR
  rw [← hk] at HKE
  rw [← hk, ← hs, ← hna, ← hnb]
  have HK0 := Lib.hid (show K0 w #[.int .i64 k, .int .i64 st, .slice aa na ca, .slice ab nb cb] ((w.alloc (.cells #[.int .i64 k, .int .i64 st, .slice aa na ca, .slice ab nb cb] 27)).alloc (.cells #[Value.int .i64 0, .int .i64 0, .slice none 0 0, .slice none 0 0] 27)) from Below.refl _ _)
  have HV1 := Lib.hid (HV.out _ _ (HPTR.out _ HK0.out))
  clear hk hs hna hnb HV hB hR
  go_enter Tryd.func14, Tryd.ntmps14
  go_wp2_with fail
  refine HV1.out.mono ?_
  rintro e w3 ⟨rfl, mq, hw3⟩
  have hk3 : K0 w #[.int .i64 k, .int .i64 st, .slice aa na ca, .slice ab nb cb] w3 := by rw [hw3]; exact below_drewN HK0.out mq
  have HK3 := Lib.hid hk3
  have r0 := cells_get (K0.res hk3) 0
  have r1 := cells_get (K0.res hk3) 1
  have r2 := cells_get (K0.res hk3) 2
  have r3 := cells_get (K0.res hk3) 3
  have f0 := cells_free (K0.res hk3) 0
  have f1 := cells_free (K0.res hk3) 1
  have f2 := cells_free (K0.res hk3) 2
  have f3 := cells_free (K0.res hk3) 3
  have hlS := lt_of_block (K0.res hk3)
  have x0 := cells_get (K0.box hk3) 0
  have x1 := cells_get (K0.box hk3) 1
  have x2 := cells_get (K0.box hk3) 2
  have x3 := cells_get (K0.box hk3) 3
  simp at r0 r1 r2 r3 x0 x1 x2 x3
  clear hw3 hk3 HV1 HK0
  cases q with
  | false =>
    have HNO := Lib.hid (HN1.out rfl)
    clear HN1 HN2 HN3 HIN HTL
    obtain ⟨rfl, rfl, rfl, rfl⟩ := HNO.out
    go_wp2_with fail
    obtain ⟨g0, g1, g2, g3⟩ := res4 (a := .int .i64 0) (b := .int .i64 0) (c := .slice none 0 0) (d := .slice none 0 0) (K0.res HK3.out)
    refine bodyPost_ret (v := .tuple #[.agg #[.int .i64 0, .int .i64 0, .slice none 0 0, .slice none 0 0], .int .i64 1]) (by simp [results, Tryd.results14, go_sem, g0, g1, g2, g3]) rfl ⟨.slice none 0 0, .slice none 0 0, rfl, ImplTidied.built_none _ _, ?_⟩
    exact set4_below (K0.base HK3.out) (Nat.le_succ _)
  | true =>
    obtain ⟨rfl, h1, h3⟩ := HKE.out rfl
    have HNO1 := Lib.hid (HNO.out h1 h3)
    have HYE1 := Lib.hid (HYE.out h1 h3)
    have HLE1 := Lib.hid (HLE.out h1 h3)
    have hmk := run_make_row' (P := Tryd.prog) 22 4 (.bool false) 1 Tryd.underlying22 info4 rfl .i64 .i64 nk (by omega) (by omega)
    obtain ⟨S3, hS3⟩ : ∃ S, S = w3.heap.size := ⟨_, rfl⟩
    have HS3 := Lib.hid (show w.heap.size + 2 ≤ S3 by rw [hS3]; exact K0.size HK3.out)
    have HL0 := Lib.hid (show Lst (w3.alloc (.cells (madeCells #[Value.bool false] nk) 4)) S3 4 (.slice (some ⟨S3, 0, none⟩) nk nk) (metV nk o 0) from by
      have h1 := Lst.made w3 S3 4 (.bool false) nk (by omega) (by unfold maxLen; omega)
      rw [← hS3] at h1
      rw [metV_zero]; exact h1)
    have HK4 := Lib.hid (show K0 w #[.int .i64 nk, .int .i64 st, .slice aa na ca, .slice ab nb cb] (w3.alloc (.cells (madeCells #[Value.bool false] nk) 4)) from Below.alloc HK3.out (K0.size HK3.out) _)
    have hsub : IntKind.i64.wrap ((nk : Int) - 1) = (nk : Int) - 1 := IntWalk.i64_in _ (by omega)
    have HSUB := Lib.hid hsub
    clear HN1 HNO HYE HLE HKE hsub
    go_wp2_with fail
    rw [← hS3]
    clear hS3
    go_loopw [7] (fun s7 wr => ∃ t : Nat, t ≤ n ∧ s7 = .int .i64 t ∧ fineB nk o t = true ∧ Lst wr S3 4 (.slice (some ⟨S3, 0, none⟩) nk nk) (metV nk o t) ∧ K0 w #[.int .i64 nk, .int .i64 st, .slice aa na ca, .slice ab nb cb] wr) (fun s7 _ => n - (intOf s7).toNat)
    case atStart => exact ⟨0, Nat.zero_le _, rfl, rfl, HL0.out, HK4.out⟩
    case round =>
      obtain ⟨t, ht, rfl, hf, hl, hk⟩ := hrel
      have HL := Lib.hid hl
      have HK := Lib.hid hk
      have HFI := Lib.hid hf
      clear HL0 HK4 hmk r0 r1 r2 r3 f0 f1 f2 f3 hlS x0 x1 x2 x3
      have r0 := cells_get (K0.res hk) 0
      have r1 := cells_get (K0.res hk) 1
      have r2 := cells_get (K0.res hk) 2
      have r3 := cells_get (K0.res hk) 3
      have f0 := cells_free (K0.res hk) 0
      have f1 := cells_free (K0.res hk) 1
      have f2 := cells_free (K0.res hk) 2
      have f3 := cells_free (K0.res hk) 3
      have hlS := lt_of_block (K0.res hk)
      have x0 := cells_get (K0.box hk) 0
      have x1 := cells_get (K0.box hk) 1
      have x2 := cells_get (K0.box hk) 2
      have x3 := cells_get (K0.box hk) 3
      simp at r0 r1 r2 r3 x0 x1 x2 x3
      by_cases hlt : t < n
      · obtain ⟨rfl, hbo⟩ := HAO.out (by omega)
        have c0 := HCO.out wr (K0.base hk) bo rfl hbo t hlt
        have HFA := Lib.hid (fineB_far (k := nk) (o := o) (t := t))
        have HFM := Lib.hid (fineB_met (k := nk) (o := o) (t := t))
        have HFS := Lib.hid (fineB_step hf)
        have HST := Lib.hid (fun m => metV_set (k := nk) (o := o) (t := t) (m := m))
        have HO1 := Lib.hid (HNO1.out (t + 1) hlt)
        obtain ⟨x, hx⟩ : ∃ x, x = o.getD t 0 := ⟨_, rfl⟩
        rw [← hx] at c0 HFA HFM HFS HST
        have hsub := HSUB.out
        have HBT := Lib.hid (fun W => inRange x 0 ((nk : Int) - 1) W)
        clear hx hf
        by_cases hr : 0 ≤ x ∧ x < nk
        · rw [show inB x 0 ((nk : Int) - 1) = true from by simp [inB]; omega] at HBT
          obtain ⟨m, rfl⟩ : ∃ m : Nat, x = m := ⟨x.toNat, by omega⟩
          have hmk' : m < nk := by omega
          have hln : m < (metV nk o t).length := by rw [metV_length]; exact hmk'
          have c9 := hl.cellOf (i := m) hln
          rw [metV_get] at c9
          have hgl := hl.lt (k := S3) rfl
          clear HFA hr hl hk
          cases hm : metB o t (m : Nat) with
          | true =>
            have HOF := Lib.hid (HN2.out (by trivial) (HO1.out (HFM.out hm)))
            rw [hm] at c9
            clear hm HN2 HN3 HIN HTL HPTR
            go_upto_region 7 with fail
            go_cut [37] (fun v37 wx => v37 = .bool true ∧ ∃ q, wx = wr.drewN q)
            case first =>
              go_quiet ((go_at_call 39; refine (HBT.out _).mono ?_; rintro e w' ⟨rfl, rfl⟩; exact ⟨rfl, _, rfl⟩))
              go_wp2_with fail
              go_meet
              exact ⟨rfl, _, rfl⟩
            case rest =>
              obtain ⟨rfl, qq, hqq⟩ := hcut
              have hk5 : K0 w #[.int .i64 nk, .int .i64 st, .slice aa na ca, .slice ab nb cb] wc := by rw [hqq]; exact below_drewN HK.out qq
              have hl5 : Lst wc S3 4 (.slice (some ⟨S3, 0, none⟩) nk nk) (metV nk o t) := by rw [hqq]; exact HL.out
              have HK5 := Lib.hid hk5
              have HL5 := Lib.hid hl5
              obtain ⟨rfl, rfl, rfl, rfl⟩ := HOF.out
              clear HL5 hl5 hqq r0 r1 r2 r3 f0 f1 f2 f3 hlS x0 x1 x2 x3
              have r0 := cells_get (K0.res hk5) 0
              have r1 := cells_get (K0.res hk5) 1
              have r2 := cells_get (K0.res hk5) 2
              have r3 := cells_get (K0.res hk5) 3
              have f0 := cells_free (K0.res hk5) 0
              have f1 := cells_free (K0.res hk5) 1
              have f2 := cells_free (K0.res hk5) 2
              have f3 := cells_free (K0.res hk5) 3
              have hlS := lt_of_block (K0.res hk5)
              have x0 := cells_get (K0.box hk5) 0
              have x1 := cells_get (K0.box hk5) 1
              have x2 := cells_get (K0.box hk5) 2
              have x3 := cells_get (K0.box hk5) 3
              simp at r0 r1 r2 r3 x0 x1 x2 x3
              go_wp2_with fail
              obtain ⟨g0, g1, g2, g3⟩ := res4 (a := .int .i64 0) (b := .int .i64 0) (c := .slice none 0 0) (d := .slice none 0 0) (K0.res HK5.out)
              refine bodyPost_ret (v := .tuple #[.agg #[.int .i64 0, .int .i64 0, .slice none 0 0, .slice none 0 0], .int .i64 2]) (by simp [results, Tryd.results14, go_sem, g0, g1, g2, g3]) rfl ⟨.slice none 0 0, .slice none 0 0, rfl, ImplTidied.built_none _ _, ?_⟩
              exact set4_below (K0.base HK5.out) (Nat.le_succ _)
          | false =>
            have HF1 := Lib.hid (HFS.out (by omega) (by omega) hm)
            have HLN := Lib.hid hln
            rw [hm] at c9
            clear hm
            go_upto_region 7 with fail
            go_cut [37] (fun v37 wx => v37 = .bool false ∧ ∃ q, wx = wr.drewN q)
            case first =>
              go_quiet ((go_at_call 39; refine (HBT.out _).mono ?_; rintro e w' ⟨rfl, rfl⟩; exact ⟨rfl, _, rfl⟩))
              go_wp2_with fail
              go_meet
              exact ⟨rfl, _, rfl⟩
            case rest =>
              obtain ⟨rfl, qq, hqq⟩ := hcut
              have hk5 : K0 w #[.int .i64 nk, .int .i64 st, .slice aa na ca, .slice ab nb cb] wc := by rw [hqq]; exact below_drewN HK.out qq
              have hl5 : Lst wc S3 4 (.slice (some ⟨S3, 0, none⟩) nk nk) (metV nk o t) := by rw [hqq]; exact HL.out
              have HK5 := Lib.hid hk5
              have HL5 := Lib.hid hl5
              have d0 := (show wc.cell? ⟨bo, oo + t, none⟩ = wr.cell? ⟨bo, oo + t, none⟩ from by rw [hqq]; rfl).trans c0
              have d9 := hl5.cellOf (i := m) HLN.out
              have z9 := hl5.free m
              have g9 := hl5.lt (k := S3) rfl
              clear hqq c0 c9 hl5 hk5 hgl
              go_wp2_with fail
              go_roundw
              case rel => exact ⟨t + 1, hlt, by go_num, HF1.out, by rw [← HST.out m rfl]; exact HL5.out.set (i := m) HLN.out _, Below.setCell HK5.out HS3.out _⟩
              case measure => simp [intOf]; omega
        · have HOF := Lib.hid (HN2.out (by trivial) (HO1.out (HFA.out hr)))
          rw [show inB x 0 ((nk : Int) - 1) = false from by simp [inB]; omega] at HBT
          clear hr hl hk HN2 HN3 HIN HTL HPTR
          go_upto_region 7 with fail
          go_cut [37] (fun v37 wx => v37 = .bool true ∧ ∃ q, wx = wr.drewN q)
          case first =>
            go_quiet ((go_at_call 39; refine (HBT.out _).mono ?_; rintro e w' ⟨rfl, rfl⟩; exact ⟨rfl, _, rfl⟩))
            go_wp2_with fail
            go_meet
            exact ⟨rfl, _, rfl⟩
          case rest =>
            obtain ⟨rfl, qq, hqq⟩ := hcut
            have hk5 : K0 w #[.int .i64 nk, .int .i64 st, .slice aa na ca, .slice ab nb cb] wc := by rw [hqq]; exact below_drewN HK.out qq
            have hl5 : Lst wc S3 4 (.slice (some ⟨S3, 0, none⟩) nk nk) (metV nk o t) := by rw [hqq]; exact HL.out
            have HK5 := Lib.hid hk5
            have HL5 := Lib.hid hl5
            obtain ⟨rfl, rfl, rfl, rfl⟩ := HOF.out
            clear HL5 hl5 hqq r0 r1 r2 r3 f0 f1 f2 f3 hlS x0 x1 x2 x3
            have r0 := cells_get (K0.res hk5) 0
            have r1 := cells_get (K0.res hk5) 1
            have r2 := cells_get (K0.res hk5) 2
            have r3 := cells_get (K0.res hk5) 3
            have f0 := cells_free (K0.res hk5) 0
            have f1 := cells_free (K0.res hk5) 1
            have f2 := cells_free (K0.res hk5) 2
            have f3 := cells_free (K0.res hk5) 3
            have hlS := lt_of_block (K0.res hk5)
            have x0 := cells_get (K0.box hk5) 0
            have x1 := cells_get (K0.box hk5) 1
            have x2 := cells_get (K0.box hk5) 2
            have x3 := cells_get (K0.box hk5) 3
            simp at r0 r1 r2 r3 x0 x1 x2 x3
            go_wp2_with fail
            obtain ⟨g0, g1, g2, g3⟩ := res4 (a := .int .i64 0) (b := .int .i64 0) (c := .slice none 0 0) (d := .slice none 0 0) (K0.res HK5.out)
            refine bodyPost_ret (v := .tuple #[.agg #[.int .i64 0, .int .i64 0, .slice none 0 0, .slice none 0 0], .int .i64 2]) (by simp [results, Tryd.results14, go_sem, g0, g1, g2, g3]) rfl ⟨.slice none 0 0, .slice none 0 0, rfl, ImplTidied.built_none _ _, ?_⟩
            exact set4_below (K0.base HK5.out) (Nat.le_succ _)
      · obtain rfl : t = n := by omega
        by_cases hnk : t = nk
        · have HOT := Lib.hid (HYE1.out hnk (by have := HFI.out; rwa [hnk] at this))
          have HYE := Lib.hid (HN3.out (by trivial) HOT.out)
          have HTM := Lib.hid (HTL.out (by trivial) HOT.out)
          have HI3 := Lib.hid (HIN.out (by trivial) HOT.out w.heap.size wr (K0.base HK.out) (HPTR.out _ HK.out) (by have := K0.size HK.out; omega))
          have hne : ((t : Int) != (nk : Int)) = false := by simp; omega
          have HK4 := HK
          clear HN2 HN3 HIN HPTR HTL hnk hl hk hf HYE1 HLE1 HNO1
          obtain ⟨eC, eK, eA, eN⟩ := HYE.out
          have HTO := Lib.hid (fun a4 b4 n4 c4 m4 d4 W B hbu => ToldI.toldI L1 HTM.out a4 b4 n4 c4 m4 d4 W B hbu)
          rw [← eC, ← eK, ← eA, ← eN] at HTO
          obtain ⟨kk, hkk⟩ : ∃ y : Int, y = (L1.k : Nat) := ⟨_, rfl⟩
          rw [← hkk] at HTO HI3
          clear eC eK eA eN HYE hkk
          go_wp2_with fail
          refine HI3.out.mono ?_
          rintro e w4 ⟨va, vn, rfl, hbu, hb4⟩
          obtain ⟨a4, n4, c4, rfl, -⟩ := hbu.acc.shape'
          obtain ⟨items4, -, hnx4, -⟩ := hbu.rows
          obtain ⟨b4, m4, d4, rfl, -⟩ := hnx4.shape'
          have HK5' := Lib.hid (show K0 w #[.int .i64 nk, .int .i64 st, .slice aa na ca, .slice ab nb cb] w4 from Below.trans HK4.out (hb4.mono (K0.size HK4.out)))
          have HO := Lib.hid (HTO.out a4 b4 n4 c4 m4 d4 w4 _ hbu)
          clear hbu hb4 hnx4 HI3 HTO r0 r1 r2 r3 f0 f1 f2 f3 hlS x0 x1 x2 x3
          go_wp2_with fail
          refine HO.out.mono ?_
          rintro e w5 ⟨va, vn, rfl, hbu, hb5⟩
          have HBU := Lib.hid (show Built w5 (w.heap.size + 2) va vn cA cN from hbu.mono (K0.size HK4.out))
          obtain ⟨a4, n4, c4, rfl, -⟩ := hbu.acc.shape'
          obtain ⟨items4, -, hnx4, -⟩ := hbu.rows
          obtain ⟨b4, m4, d4, rfl, -⟩ := hnx4.shape'
          have hk3 : K0 w #[.int .i64 nk, .int .i64 st, .slice aa na ca, .slice ab nb cb] w5 := Below.trans HK5'.out (hb5.mono (K0.size HK5'.out))
          have HK5 := Lib.hid hk3
          have r0 := cells_get (K0.res hk3) 0
          have r1 := cells_get (K0.res hk3) 1
          have r2 := cells_get (K0.res hk3) 2
          have r3 := cells_get (K0.res hk3) 3
          have f0 := cells_free (K0.res hk3) 0
          have f1 := cells_free (K0.res hk3) 1
          have f2 := cells_free (K0.res hk3) 2
          have f3 := cells_free (K0.res hk3) 3
          have hlS := lt_of_block (K0.res hk3)
          have x0 := cells_get (K0.box hk3) 0
          have x1 := cells_get (K0.box hk3) 1
          have x2 := cells_get (K0.box hk3) 2
          have x3 := cells_get (K0.box hk3) 3
          simp at r0 r1 r2 r3 x0 x1 x2 x3
          clear hbu hb5 hnx4 HO hk3
          go_wp2_with fail
          obtain ⟨g0, g1, g2, g3⟩ := res4 (a := .int .i64 cK) (b := .int .i64 0) (c := .slice a4 n4 c4) (d := .slice b4 m4 d4) (K0.res HK5.out)
          refine bodyPost_ret (v := .tuple #[.agg #[.int .i64 cK, .int .i64 0, .slice a4 n4 c4, .slice b4 m4 d4], .int .i64 cC]) (by simp [results, Tryd.results14, go_sem, g0, g1, g2, g3]) rfl ⟨.slice a4 n4 c4, .slice b4 m4 d4, rfl, ?_, ?_⟩
          · exact (set4_built HBU.out (by omega)).mono (by omega)
          · exact set4_below (K0.base HK5.out) (Nat.le_succ _)
        · have HNE := Lib.hid (HN2.out (by trivial) (HLE1.out hnk))
          have hne : ((t : Int) != (nk : Int)) = true := by simp; omega
          clear HN2 HN3 HIN HPTR HTL hl hk hf HYE1 HLE1 HNO1 hnk
          obtain ⟨rfl, rfl, rfl, rfl⟩ := HNE.out
          go_wp2_with fail
          obtain ⟨g0, g1, g2, g3⟩ := res4 (a := .int .i64 0) (b := .int .i64 0) (c := .slice none 0 0) (d := .slice none 0 0) (K0.res HK.out)
          refine bodyPost_ret (v := .tuple #[.agg #[.int .i64 0, .int .i64 0, .slice none 0 0, .slice none 0 0], .int .i64 2]) (by simp [results, Tryd.results14, go_sem, g0, g1, g2, g3]) rfl ⟨.slice none 0 0, .slice none 0 0, rfl, ImplTidied.built_none _ _, ?_⟩
          exact set4_below (K0.base HK.out) (Nat.le_succ _)
end Go.Proofs.YtgaipjofhkijbaaDoor.MoveS
/- A list of numbers of one's own, marked from a number that may lie higher.
   Conditions: stated at the theorem. -/
namespace Go.Proofs.YtgaipjofhkijbaaDoor.MarkIntsB
set_option linter.unusedVariables false
set_option linter.unusedSimpArgs false
open Go.RowKit Mem Copy Rel
open MarkRow MarkRows Copy Rel

structure OwnI (N : Nat) (W : World) (xs : List Int) : Prop where
  row : W.rowIs N 2 xs.length (fun i => .int .i64 (xs.getD i 0))
  lt : N < W.heap.size
  short : xs.length ≤ 1048576
theorem OwnI.step {N : Nat} {W W' : World} {xs : List Int} (h : OwnI N W xs) (hb : Below W.heap.size W W') : OwnI N W' xs := ⟨rowIs_below h.row hb h.lt, Nat.lt_of_lt_of_le h.lt hb.size, h.short⟩
theorem OwnI.drewN {N : Nat} {W : World} {xs : List Int} (h : OwnI N W xs) (m : Nat) : OwnI N (W.drewN m) xs := ⟨h.row, h.lt, h.short⟩
theorem OwnI.reads {N : Nat} {W : World} {xs : List Int} (h : OwnI N W xs) : Ints W W.heap.size (.slice (some ⟨N, 0, none⟩) xs.length xs.length) xs :=
  Sl.of_row h.row _ h.lt (by have := h.short; unfold maxLen; omega)

theorem copyI (va : Value) (xs : List Int) (W : World) (B : Nat) (ha : Ints W B va xs) (hB : B ≤ W.heap.size) (hs : xs.length ≤ 1048576) :
    Calls Tryd.prog 15 #[va] W fun e w' => ∃ M, M = W.heap.size ∧ e = .returned (.slice (some ⟨M, 0, none⟩) xs.length xs.length) ∧ OwnI M w' xs ∧ Below W.heap.size W w' :=
  (copyInts xs va W B ha hB hs).mono fun _ _ ⟨he, hr, hb, hz⟩ => ⟨_, rfl, he, ⟨hr, by omega, hs⟩, hb⟩

set_option maxHeartbeats 1000000 in
theorem markIntsB (v : Value) (n : Nat) (f : Nat → Value) (k : Nat) (lo : Nat) (w : World) (hr : Row w lo 2 v n f) (hn : n ≤ 1048576) (hk : k ≤ 2097153) :
    Calls Tryd.prog 18 #[v, .int .i64 k] w fun e w' => e = .returned (.int .i64 ((k + n : Nat) : Int)) ∧ Row w' lo 2 v n (fun i => .int .i64 ((k + i : Nat) : Int)) ∧ w.grownBy w' v.ownBlock := by
  obtain ⟨a, cap, rfl, hr⟩ := hr
  by_cases h0 : n = 0
  · subst h0
    clear hr
    go_enter Tryd.func18, Tryd.ntmps18
    go_wp2
    refine wp_loop_rounds 1 ?_
    rw [rounds_succ]
    go_wp2
    go_ret
    exact ⟨rfl, ⟨_, _, rfl, fun h => absurd h (Nat.lt_irrefl 0)⟩, grown_refl _ _⟩
  · obtain ⟨g, m, F, rfl, hlo, hnm, hrow, -⟩ := hr (by omega)
    have hg0 : g < w.heap.size := hrow.lt
    go_enter Tryd.func18, Tryd.ntmps18
    go_wp2
    go_loopw [1, 5] (fun kk i wr => ∃ j : Nat, j ≤ n ∧ i = .int .i64 j ∧ kk = .int .i64 ((k + j : Nat) : Int) ∧ wr.rowIs g 2 m (fun i => if i < j then .int .i64 ((k + i : Nat) : Int) else F i) ∧ w.grownBy wr (some g)) (fun _ i _ => n - (intOf i).toNat)
    case atStart => exact ⟨0, Nat.zero_le _, rfl, rfl, hrow.congr fun i hi => by rw [if_neg (Nat.not_lt_zero i)], grown_refl _ _⟩
    case round =>
      obtain ⟨j, hj, rfl, rfl, hrw, hgr⟩ := hrel
      have HR := Lib.hid hrw
      have HG := Lib.hid hgr
      by_cases hlt : j < n
      · have cN := hrw.cell (show j < m by omega)
        have fN := hrw.frozen j
        rw [if_neg (Nat.lt_irrefl j)] at cN
        obtain ⟨x, hx⟩ : ∃ x, x = F j := ⟨_, rfl⟩
        rw [← hx] at cN
        clear hrw hgr hr hrow hx
        go_wp2
        go_roundw
        case rel =>
          refine ⟨j + 1, hlt, by go_num, by go_num, (HR.out.set j _).congr fun i hi => ?_, grown_set HG.out _ _⟩
          by_cases e : i = j
          · subst e; simp
          · have h1 : (i < j + 1) = (i < j) := by apply propext; constructor <;> intro h <;> omega
            simp only [if_neg e, h1]
        case measure => simp [intOf]; omega
      · obtain rfl : j = n := by omega
        clear hrw hgr hr hrow
        go_wp2
        go_ret
        exact ⟨rfl, ⟨_, _, rfl, fun _ => ⟨g, m, _, rfl, hlo, hnm, HR.out, fun i hi => if_pos hi⟩⟩, HG.out⟩

theorem rowIs_only {S : Nat → Prop} {w w' : World} {b n : Nat} {t : TypeId} {f : Nat → Value} (h : w.rowIs b t n f) (ho : Only S w w') (hb : b < w.heap.size) (hS : ¬ S b) : w'.rowIs b t n f := h.of_block (ho.block b hb hS)
end Go.Proofs.YtgaipjofhkijbaaDoor.MarkIntsB
