
/- What the model's OppositeRelation answers: a relation in memory of its own, and a code.
   Conditions: the relation is read as XRel's text says. -/
import Derived.Test.YthebmpdkiocbmaaDoorCopyI
import Derived.Test.YthebmpdkiocbmaaDoorOppImpl
import Derived.Test.YthebmpdkiocbmaaDoorSpecTidied
import Derived.Test.YthebmpdkiocbmaaDoorSpecTold
namespace Go.Proofs.YthebmpdkiocbmaaDoor.OppSpec
set_option linter.unusedVariables false
set_option linter.unusedSimpArgs false
set_option maxRecDepth 100000
open Go.RowKit Mem Copy Rel Valid Heap Push Columns Bld TidyAuto TidyRight SpecRight SpecTidied SpecTold ToL SpecTidyRel ImplTidied CopyI OppImpl ErrCode

/-- The copy whose truth values are turned one by one. -/
structure Fl (w : World) (B X : Nat) (k st : Int) (g n c : Nat) (vn : Value) (f : Nat → Bool) (nx : List (List Int)) : Prop where
  acc : Lst w B 4 (.slice (some ⟨g, 0, none⟩) n c) (bvF n f)
  rows : Built w B (.slice none 0 0) vn [] nx
  at_ : w.heap[X]? = some (.cells #[.int .i64 k, .int .i64 st, .slice (some ⟨g, 0, none⟩) n c, vn] 27 (0, 0))
section
variable {w w' : World} {B X : Nat} {k st : Int} {g n c : Nat} {vn : Value} {f : Nat → Bool} {nx : List (List Int)}
theorem Fl.lt (h : Fl w B X k st g n c vn f nx) : X < w.heap.size := lt_of_block h.at_
theorem Fl.ne (h : Fl w B X k st g n c vn f nx) : g ≠ X := fun e => block_apart h.acc h.at_ (by decide) (by show some g = some X; rw [e])
theorem Fl.set (h : Fl w B X k st g n c vn f nx) {i : Nat} (hi : i < n) (b : Bool) : Fl (w.setCell ⟨g, i, none⟩ (.bool b)) B X k st g n c vn (fun q => if q = i then b else f q) nx := by
  refine ⟨?_, ?_, ?_⟩
  · have h1 := h.acc.set (i := i) (by rw [bvF_length]; exact hi) (.bool b)
    rw [bvF_set] at h1
    exact h1
  · obtain ⟨items, h1, h2, h3⟩ := h.rows.rows
    exact ⟨Lst.nil _ _ _, items, ⟨fun p hp => (h1.lst p hp).setOther (h.acc.apart (h1.lst p hp) (by decide) g rfl) _, h1.apart⟩, h2.setOther (h.acc.apart h2 (by decide) g rfl) _, h3⟩
  · rw [Below.heap_setCell _ _ _ _ (fun e => h.ne (show g = X from e.symm))]; exact h.at_
theorem Fl.congr {f' : Nat → Bool} (h : Fl w B X k st g n c vn f nx) (e : ∀ i, i < n → f i = f' i) : Fl w B X k st g n c vn f' nx :=
  ⟨by rw [← bvF_congr e]; exact h.acc, h.rows, h.at_⟩
theorem Fl.drew (h : Fl w B X k st g n c vn f nx) : Fl w.drew B X k st g n c vn f nx := ⟨h.acc, h.rows.drewN 1, h.at_⟩
end

set_option maxHeartbeats 8000000 in
theorem oppositeL (r : R) (hok : okB r = true) (bp : Nat) (w : World) (B : Nat) (h : RelPtr w B bp r) (hB : B ≤ w.heap.size) (hbp : bp < w.heap.size) :
    Calls Tryd.prog 36 #[.pointer (some ⟨bp, 0, none⟩)] w fun e w' => ∃ va vn, e = .returned (.agg #[.int .i64 (flipL (toL r)).k, .int .i64 0, va, vn]) ∧ Built w' w.heap.size va vn (tidyAcc (flipL (toL r))) (tidyNext (flipL (toL r))) ∧ Below w.heap.size w w' := by
  have h1 := okL hok
  have h18 : r.accept.length = (toL r).acc.length := rfl
  have hn0 : 0 < r.accept.length := by rw [h18]; exact Nat.lt_of_le_of_lt (Nat.zero_le _) h1.1.2.st
  have hn5 : r.accept.length ≤ 1000 := by have := h1.2; omega
  have HCP := Lib.hid (copyI r hok bp (w.alloc (.cells #[Value.int .i64 0, .int .i64 0, .slice none 0 0, .slice none 0 0] 27)) B (h.below ((Below.refl _ _).alloc (Nat.le_refl _) _) hB (by have := hbp; exact this)) (by rw [size_alloc']; omega) (by rw [size_alloc']; omega))
  have HTD := Lib.hid (fun W X (hp : RelPtr W W.heap.size X (flipR r)) (hX : X < W.heap.size) => SpecTidied.tidied (flipL (toL r)) (flipL_ok h1.1.2) X W W.heap.size (by rw [flip_rel h1.1.1]; exact hp) (Nat.le_refl _) hX (by show (List.map _ _).length ≤ 100000; rw [List.length_map]; have := h1.2; omega))
  rw [size_alloc'] at HCP
  obtain ⟨K, hK⟩ : ∃ K : Int, K = (flipL (toL r)).k := ⟨_, rfl⟩
  obtain ⟨A, hA⟩ : ∃ A, A = tidyAcc (flipL (toL r)) := ⟨_, rfl⟩
  obtain ⟨N, hN⟩ : ∃ N, N = tidyNext (flipL (toL r)) := ⟨_, rfl⟩
  rw [← hK, ← hA, ← hN] at HTD
  rw [← hK, ← hA, ← hN]
  obtain ⟨k, hk⟩ : ∃ k, k = r.tapes := ⟨_, rfl⟩
  obtain ⟨st, hs⟩ : ∃ st, st = r.start := ⟨_, rfl⟩
  obtain ⟨n, hna⟩ : ∃ n, n = r.accept.length := ⟨_, rfl⟩
  obtain ⟨f, hf⟩ : ∃ f : Nat → Bool, f = fun i => r.accept.getD i false := ⟨_, rfl⟩
  have HF1 := Lib.hid (show r.accept.map Value.bool = bvF n f from by rw [hna, hf]; exact bvF_list r.accept)
  have HF2 := Lib.hid (show bvF n (fun i => !f i) = (flipR r).accept.map Value.bool from by rw [hna, hf]; exact bvF_flip r.accept)
  have HKR := Lib.hid (show (flipR r).tapes = k ∧ (flipR r).start = st ∧ (flipR r).next = r.next from ⟨hk.symm, hs.symm, rfl⟩)
  rw [← hk, ← hs] at HCP
  rw [← hna] at hn0 hn5
  clear hK hA hN hk hs hna hf h1 h18 hok h hB hbp
  go_enter Tryd.func36, Tryd.ntmps36
  go_wp2_with fail
  refine HCP.out.mono ?_
  rintro e w1 ⟨va, vn, rfl, hbu, hb1⟩
  have hbu' := hbu
  obtain ⟨hacc, hrows⟩ := hbu'
  rw [HF1.out] at hacc
  obtain ⟨aa, na, ca, rfl, HNA⟩ := hacc.shape'
  have hna : na = n := by rw [HNA.out, bvF_length]
  subst hna
  obtain ⟨g, rfl, -⟩ := hacc.addr (by rw [bvF_length]; exact hn0)
  obtain ⟨items, -, hnx, -⟩ := hbu.rows
  obtain ⟨an, nn, cn, rfl, -⟩ := hnx.shape'
  have hk1 : Kp w w1 := hb1
  obtain ⟨X, hX⟩ : ∃ X, X = w1.heap.size := ⟨_, rfl⟩
  have HXS := Lib.hid (show w.heap.size + 1 ≤ X from by rw [hX]; exact Kp.size hk1)
  have HD0 := Lib.hid (show Fl (w1.alloc (.cells #[.int .i64 k, .int .i64 st, .slice (some ⟨g, 0, none⟩) na ca, .slice an nn cn] 27)) (w.heap.size + 1) X k st g na ca (.slice an nn cn) (fun q => if q < 0 then !f q else f q) r.next from by
    refine ⟨?_, ?_, by rw [hX]; exact heap_last _ _⟩
    · rw [bvF_congr (g := f) (fun q hq => if_neg (Nat.not_lt_zero q))]; exact hacc.alloc _
    · have hr : Built w1 (w.heap.size + 1) (.slice none 0 0) (.slice an nn cn) [] r.next := ⟨Lst.nil _ _ _, hrows⟩
      exact hr.below ((Below.refl _ _).alloc (Nat.le_refl _) _))
  have HK0 := Lib.hid (show Kp w (w1.alloc (.cells #[.int .i64 k, .int .i64 st, .slice (some ⟨g, 0, none⟩) na ca, .slice an nn cn] 27)) from Below.alloc hk1 (Kp.size hk1) _)
  clear hbu hb1 hacc hrows hnx hk1 HCP
  go_wp2_with fail
  rw [← hX]
  clear hX
  go_loopw [4] (fun s4 wr => ∃ i : Nat, i ≤ na ∧ s4 = .int .i64 i ∧ Fl wr (w.heap.size + 1) X k st g na ca (.slice an nn cn) (fun q => if q < i then !f q else f q) r.next ∧ Kp w wr) (fun s4 _ => na - (intOf s4).toNat)
  case atStart => exact ⟨0, Nat.zero_le _, rfl, HD0.out, HK0.out⟩
  case round =>
    obtain ⟨i, hi, rfl, hd, hk⟩ := hrel
    have HD := Lib.hid hd
    have HK := Lib.hid hk
    have x2 := cells_get hd.at_ 2
    simp at x2
    have hXl := hd.lt
    clear hd hk HD0 HK0
    by_cases hlt : i < na
    · have hgX := HD.out.ne
      have c9 := HD.out.acc.cellOf (i := i) (by rw [bvF_length]; exact hlt)
      have f9 := HD.out.acc.free i
      have hgl := HD.out.acc.lt (k := g) rfl
      have c9' : wr.cell? ⟨g, i, none⟩ = some (.bool (f i)) := by rw [c9]; simp [bvF]
      obtain ⟨b, hb⟩ : ∃ b, b = f i := ⟨_, rfl⟩
      rw [← hb] at c9'
      have HBI := Lib.hid hb
      have hi0 : (0 : Int) ≤ (i : Int) := Int.natCast_nonneg _
      have hi1 : (i : Int) < (na : Int) := by omega
      clear c9 hb
      have HSET := Lib.hid (show Fl (wr.drew.setCell ⟨g, i, none⟩ (.bool (!b))) (w.heap.size + 1) X k st g na ca (.slice an nn cn) (fun q => if q < i + 1 then !f q else f q) r.next from by
        refine (HD.out.drew.set (i := i) hlt (!b)).congr fun q hq => ?_
        by_cases e : q = i
        · subst e; simp [HBI.out]
        · have : (q < i + 1) = (q < i) := by apply propext; constructor <;> intro h <;> omega
          simp only [if_neg e, this])
      have HKS := Lib.hid (show Kp w (wr.drew.setCell ⟨g, i, none⟩ (.bool (!b))) from (Below.drew HK.out).setCell (p := ⟨g, i, none⟩) (HD.out.acc.ge (k := g) rfl) _)
      go_wp2_with fail
      go_region
      all_goals
        go_wp2_with fail
        go_roundw
        case rel => exact ⟨i + 1, hlt, by go_num, HSET.out, HKS.out⟩
        case measure => simp [intOf]; omega
    · obtain rfl : i = na := by omega
      have HB7 := Lib.hid (show Built wr (w.heap.size + 1) (.slice (some ⟨g, 0, none⟩) i ca) (.slice an nn cn) (flipR r).accept (flipR r).next from by
        refine ⟨?_, by rw [HKR.out.2.2]; exact HD.out.rows.rows⟩
        rw [← HF2.out, bvF_congr (g := fun q => if q < i then !f q else f q) (fun q hq => (if_pos hq).symm)]
        exact HD.out.acc)
      have HP := Lib.hid (show RelPtr wr wr.heap.size X (flipR r) from by
        obtain ⟨va', vn', ev, hva, hvn⟩ := HB7.out.reads wr.heap.size (Nat.le_refl _) 0 0
        simp at ev
        obtain ⟨rfl, rfl⟩ := ev
        have hat := HD.out.at_
        have y0 := cells_get hat 0
        have y1 := cells_get hat 1
        have y2 := cells_get hat 2
        have y3 := cells_get hat 3
        simp at y0 y1 y2 y3
        exact ⟨_, _, by rw [HKR.out.1]; exact y0, by rw [HKR.out.2.1]; exact y1, y2, y3, hva, hvn⟩)
      have HT := Lib.hid (HTD.out wr X HP.out HD.out.lt)
      go_wp2_with fail
      refine HT.out.mono ?_
      rintro e w7 ⟨va7, vn7, rfl, hbu, hb⟩
      have HR7 := Lib.hid (show Res0 w w.heap.size w7 from by
        have h1 : Kp w w7 := Below.trans HK.out (hb.mono (Kp.size HK.out))
        exact ⟨Kp.base h1, Kp.res h1, Nat.le_refl _⟩)
      have HB8 := Lib.hid (show Built w7 (w.heap.size + 1) va7 vn7 A N from hbu.mono (Kp.size HK.out))
      clear hbu hb HT
      have hres := HR7.out.res
      obtain ⟨a7, n7, c7, rfl, -⟩ := HB8.out.acc.shape'
      obtain ⟨items7, -, hnx7, -⟩ := HB8.out.rows
      obtain ⟨b7, m7, d7, rfl, -⟩ := hnx7.shape'
      have r0 := cells_get hres 0
      have r1 := cells_get hres 1
      have r2 := cells_get hres 2
      have r3 := cells_get hres 3
      have f0 := cells_free hres 0
      have f1 := cells_free hres 1
      have f2 := cells_free hres 2
      have f3 := cells_free hres 3
      have hlS := HR7.out.lt
      have p0 := cells_set hres 0 (.int .i64 K)
      have p1 := cells_set p0 1 (.int .i64 0)
      have p2 := cells_set p1 2 (.slice a7 n7 c7)
      have p3 := cells_set p2 3 (.slice b7 m7 d7)
      simp at r0 r1 r2 r3 p3
      have g0 := cells_get p3 0
      have g1 := cells_get p3 1
      have g2 := cells_get p3 2
      have g3 := cells_get p3 3
      simp at g0 g1 g2 g3
      have HG := Lib.hid (And.intro g0 (And.intro g1 (And.intro g2 g3)))
      clear p0 p1 p2 p3 g0 g1 g2 g3 hres hnx7
      go_wp2_with fail
      obtain ⟨g0, g1, g2, g3⟩ := HG.out
      refine bodyPost_ret (v := .agg #[.int .i64 K, .int .i64 0, .slice a7 n7 c7, .slice b7 m7 d7]) (by simp [results, Tryd.results36, go_sem, g0, g1, g2, g3]) rfl ⟨.slice a7 n7 c7, .slice b7 m7 d7, rfl, ?_, ?_⟩
      · exact (((((HB8.out.setLow (a := ⟨w.heap.size, 0, none⟩) (Nat.lt_succ_self _) _).setLow (a := ⟨w.heap.size, 1, none⟩) (Nat.lt_succ_self _) _).setLow (a := ⟨w.heap.size, 2, none⟩) (Nat.lt_succ_self _) _).setLow (a := ⟨w.heap.size, 3, none⟩) (Nat.lt_succ_self _) _).mono (Nat.le_succ_of_le HR7.out.hR))
      · exact ((((HR7.out.base.setCell (p := ⟨w.heap.size, 0, none⟩) HR7.out.hR _).setCell (p := ⟨w.heap.size, 1, none⟩) HR7.out.hR _).setCell (p := ⟨w.heap.size, 2, none⟩) HR7.out.hR _).setCell (p := ⟨w.heap.size, 3, none⟩) HR7.out.hR _)
set_option maxHeartbeats 4000000 in
theorem specOpposite (v : Value) (r : R) (w : World) (B : Nat) (h : RelAt w B v r) (hB : B ≤ w.heap.size) :
    Calls Tryd.prog 11 #[v] w fun e w' => ∃ va vn, e = .returned (.tuple #[.agg #[.int .i64 (oppK r), .int .i64 0, va, vn], .int .i64 (oppC r)]) ∧ Built w' w.heap.size va vn (oppA r) (oppN r) ∧ Below w.heap.size w w' := by
  obtain ⟨va, vn, rfl, ha, hn⟩ := h
  have HS := Lib.hid (show okB r = true → (relOf (toL r) = r ∧ (toL r).Ok) ∧ (toL r).acc.length ≤ 150 from fun h => by
    unfold okB at h
    rw [Bool.and_eq_true] at h
    exact ⟨relOf_toL h.2, by have := of_decide_eq_true h.1; show r.accept.length ≤ 150; omega⟩)
  have HP0 := RelPtr.boxed ha hn hB 27
  obtain ⟨aa, ba, oa, ca, rfl, -, -, -⟩ := ha
  obtain ⟨-, ⟨ab, bb, ob, cb, rfl, -, -, -⟩, -⟩ := hn
  have HW2 : ∃ W2, W2 = (w.alloc (.cells #[.int .i64 r.tapes, .int .i64 r.start, .slice aa r.accept.length ca, .slice ab r.next.length cb] 27)).alloc (.cells #[Value.int .i64 0, .int .i64 0, .slice none 0 0, .slice none 0 0] 27) := ⟨_, rfl⟩
  obtain ⟨W2, hW2⟩ := HW2
  have hsz : W2.heap.size = w.heap.size + 2 := by rw [hW2, size_alloc', size_alloc']
  have HP := Lib.hid (show RelPtr W2 W2.heap.size w.heap.size r from RelPtr.mono (by rw [hW2]; exact HP0.below ((Below.refl _ _).alloc (Nat.le_refl _) _) (by rw [size_alloc']; omega) (by rw [size_alloc']; omega)) (by rw [hsz]; omega))
  have HB2 := Lib.hid (show Below w.heap.size w W2 by rw [hW2]; exact ((Below.refl _ _).alloc (Nat.le_refl _) _).alloc (by rw [size_alloc']; omega) _)
  have HRES := Lib.hid (show W2.heap[w.heap.size + 1]? = some (.cells #[Value.int .i64 0, .int .i64 0, .slice none 0 0, .slice none 0 0] 27 (0, 0)) by
    rw [hW2]
    have := heap_alloc_new (w.alloc (.cells #[.int .i64 r.tapes, .int .i64 r.start, .slice aa r.accept.length ca, .slice ab r.next.length cb] 27)) (.cells #[Value.int .i64 0, .int .i64 0, .slice none 0 0, .slice none 0 0] 27)
    rwa [size_alloc'] at this)
  have HOKC := Lib.hid (specOk r w.heap.size W2 W2.heap.size HP.out)
  have HSZ := Lib.hid hsz
  clear hB HP0
  cases hok : okB r with
  | false =>
    have HC := Lib.hid (show oppC r = 1 by simp [oppC, hok])
    have HK := Lib.hid (show oppK r = 0 by simp [oppK, hok])
    have HA := Lib.hid (show oppA r = [] by simp [oppA, hok])
    have HN := Lib.hid (show oppN r = [] by simp [oppN, hok])
    rw [hok] at HOKC
    rw [HC.out, HK.out, HA.out, HN.out]
    clear hok hsz
    go_enter Tryd.func11, Tryd.ntmps11
    go_wp2_with fail
    rw [← hW2]
    clear hW2
    refine HOKC.out.mono ?_
    rintro e w3 ⟨rfl, m, rfl⟩
    have hres : (W2.drewN m).heap[w.heap.size + 1]? = some (.cells #[Value.int .i64 0, .int .i64 0, .slice none 0 0, .slice none 0 0] 27 (0, 0)) := HRES.out
    have r0 := cells_get hres 0
    have r1 := cells_get hres 1
    have r2 := cells_get hres 2
    have r3 := cells_get hres 3
    have f0 := cells_free hres 0
    have f1 := cells_free hres 1
    have f2 := cells_free hres 2
    have f3 := cells_free hres 3
    have hlS := lt_of_block hres
    have p0 := cells_set hres 0 (.int .i64 0)
    have p1 := cells_set p0 1 (.int .i64 0)
    have p2 := cells_set p1 2 (Value.slice none 0 0)
    have p3 := cells_set p2 3 (Value.slice none 0 0)
    simp at r0 r1 r2 r3 p3
    have g0 := cells_get p3 0
    have g1 := cells_get p3 1
    have g2 := cells_get p3 2
    have g3 := cells_get p3 3
    simp at g0 g1 g2 g3
    have HG := Lib.hid (And.intro g0 (And.intro g1 (And.intro g2 g3)))
    clear p0 p1 p2 p3 g0 g1 g2 g3 hres
    go_wp2_with fail
    obtain ⟨g0, g1, g2, g3⟩ := HG.out
    refine bodyPost_ret (v := .tuple #[.agg #[.int .i64 0, .int .i64 0, .slice none 0 0, .slice none 0 0], .int .i64 1]) (by
      simp [results, Tryd.results11, go_sem, g0, g1, g2, g3]) rfl ⟨_, _, rfl, ImplTidied.built_none _ _, ?_⟩
    exact (((((below_drewN HB2.out m).setCell (p := ⟨w.heap.size + 1, 0, none⟩) (Nat.le_succ _) _).setCell (p := ⟨w.heap.size + 1, 1, none⟩) (Nat.le_succ _) _).setCell (p := ⟨w.heap.size + 1, 2, none⟩) (Nat.le_succ _) _).setCell (p := ⟨w.heap.size + 1, 3, none⟩) (Nat.le_succ _) _)
  | true =>
    obtain ⟨⟨hrel, hlok⟩, hl150⟩ := HS.out hok
    have HOKR := Lib.hid hok
    rw [hok] at HOKC
    have hL : (flipL (toL r)).Ok := flipL_ok hlok
    have HTD := Lib.hid (fun m => oppositeL r HOKR.out w.heap.size (W2.drewN m) W2.heap.size (HP.out.drewN m) (Nat.le_refl _) (by show w.heap.size < W2.heap.size; omega))
    obtain ⟨kk, hkk⟩ : ∃ kk : Int, kk = ((flipL (toL r)).k : Int) := ⟨_, rfl⟩
    have HKT := Lib.hid hkk
    rw [← hkk] at HTD
    obtain ⟨T, hT⟩ : ∃ T, T = (tidyAcc (flipL (toL r))).length := ⟨_, rfl⟩
    have HT8 := Lib.hid (show T ≤ 1000000 by
      rw [hT]
      have h1 : (tidyAcc (flipL (toL r))).length = (tid (auM (flipL (toL r))) 0).length := by unfold tidyAcc TidyAuto.tidAcc; rw [List.length_map]
      have h2 : (tid (auM (flipL (toL r))) 0).length ≤ TidyAuto.most (auM (flipL (toL r))) := TidyAuto.met_few (fits hL) _
      have h3 := TidyAuto.cn_le (auM (flipL (toL r))) (TidyAuto.stop (auM (flipL (toL r))) + 1)
      have h4 : (auM (flipL (toL r))).n = (F (flipL (toL r))).length + 1 := rfl
      have h5 := F_few hL
      have h6 : (flipL (toL r)).acc.length ≤ 1000 := by show (List.map _ _).length ≤ 1000; rw [List.length_map]; omega
      unfold TidyAuto.most at h2
      omega)
    have HTT := Lib.hid hT
    have HOK := Lib.hid hok
    clear hok hrel hlok hl150 hkk hT hL
    go_enter Tryd.func11, Tryd.ntmps11
    go_wp2_with fail
    rw [← hW2]
    clear hW2
    refine HOKC.out.mono ?_
    rintro e w3 ⟨rfl, m, rfl⟩
    go_wp2_with fail
    refine (HTD.out m).mono ?_
    rintro e w4 ⟨va, vn, rfl, hbu, hb4⟩
    obtain ⟨a4, n4, c4, rfl, HN4⟩ := hbu.acc.shape'
    obtain ⟨items, -, hnx, -⟩ := hbu.rows
    obtain ⟨b4, m4, d4, rfl, -⟩ := hnx.shape'
    have hn4 : n4 = T := by rw [HN4.out, List.length_map]; exact HTT.out.symm
    subst hn4
    have HBU := Lib.hid hbu
    have HB4 := Lib.hid (show Below (w.heap.size + 2) W2 w4 from by
      have h1 : Below W2.heap.size (W2.drewN m) w4 := hb4
      rw [HSZ.out] at h1
      exact (below_drewN (Below.refl _ W2) m).trans h1)
    clear hbu hb4
    by_cases hf : n4 ≤ 150
    · have HFEW := Lib.hid (show fewB (flipL (toL r)) 150 = true by unfold fewB; rw [← HTT.out]; simp; exact hf)
      have HOF := Lib.hid (opp_of HOK.out)
      have HC := Lib.hid (show oppC r = 0 by rw [HOF.out.2.2.2, if_pos HFEW.out])
      have HK := Lib.hid (show oppK r = kk by rw [HOF.out.1, HKT.out]; unfold fewK; rw [if_pos HFEW.out])
      have HA := Lib.hid (show oppA r = tidyAcc (flipL (toL r)) by rw [HOF.out.2.1]; unfold fewA; rw [if_pos HFEW.out])
      have HN := Lib.hid (show oppN r = tidyNext (flipL (toL r)) by rw [HOF.out.2.2.1]; unfold fewN; rw [if_pos HFEW.out])
      go_wp2_with fail
      refine (told_few kk a4 b4 n4 c4 m4 d4 w4 hf).mono ?_
      rintro e w5 ⟨rfl, hb5⟩
      have HB5 := Lib.hid (show Below (w.heap.size + 2) W2 w5 from HB4.out.trans (hb5.mono (by have := HB4.out.size; rw [HSZ.out] at this; exact this)))
      have HBU5 := Lib.hid (HBU.out.below hb5)
      clear hb5
      have hres : w5.heap[w.heap.size + 1]? = some (.cells #[Value.int .i64 0, .int .i64 0, .slice none 0 0, .slice none 0 0] 27 (0, 0)) := (HB5.out.block _ (Nat.lt_succ_self _)).trans HRES.out
      have r0 := cells_get hres 0
      have r1 := cells_get hres 1
      have r2 := cells_get hres 2
      have r3 := cells_get hres 3
      have f0 := cells_free hres 0
      have f1 := cells_free hres 1
      have f2 := cells_free hres 2
      have f3 := cells_free hres 3
      have hlS := lt_of_block hres
      have p0 := cells_set hres 0 (.int .i64 kk)
      have p1 := cells_set p0 1 (.int .i64 0)
      have p2 := cells_set p1 2 (.slice a4 n4 c4)
      have p3 := cells_set p2 3 (.slice b4 m4 d4)
      simp at r0 r1 r2 r3 p3
      have g0 := cells_get p3 0
      have g1 := cells_get p3 1
      have g2 := cells_get p3 2
      have g3 := cells_get p3 3
      simp at g0 g1 g2 g3
      have HG := Lib.hid (And.intro g0 (And.intro g1 (And.intro g2 g3)))
      clear p0 p1 p2 p3 g0 g1 g2 g3 hres
      go_wp2_with fail
      obtain ⟨g0, g1, g2, g3⟩ := HG.out
      refine bodyPost_ret (v := .tuple #[.agg #[.int .i64 kk, .int .i64 0, .slice a4 n4 c4, .slice b4 m4 d4], .int .i64 0]) (by simp [results, Tryd.results11, go_sem, g0, g1, g2, g3]) rfl ⟨.slice a4 n4 c4, .slice b4 m4 d4, by rw [HC.out, HK.out], ?_, ?_⟩
      · rw [HA.out, HN.out]
        have hlow : w.heap.size + 1 < (W2.drewN m).heap.size := by show w.heap.size + 1 < W2.heap.size; rw [HSZ.out]; omega
        exact (((((HBU5.out.setLow (a := ⟨w.heap.size + 1, 0, none⟩) hlow _).setLow (a := ⟨w.heap.size + 1, 1, none⟩) hlow _).setLow (a := ⟨w.heap.size + 1, 2, none⟩) hlow _).setLow (a := ⟨w.heap.size + 1, 3, none⟩) hlow _).mono (by omega))
      · have HX := HB2.out.trans (HB5.out.mono (show w.heap.size ≤ w.heap.size + 2 by omega))
        exact (((((HX.setCell (p := ⟨w.heap.size + 1, 0, none⟩) (Nat.le_succ _) _).setCell (p := ⟨w.heap.size + 1, 1, none⟩) (Nat.le_succ _) _).setCell (p := ⟨w.heap.size + 1, 2, none⟩) (Nat.le_succ _) _).setCell (p := ⟨w.heap.size + 1, 3, none⟩) (Nat.le_succ _) _))
    · have HFEW := Lib.hid (show fewB (flipL (toL r)) 150 = false by unfold fewB; rw [← HTT.out]; simp; omega)
      have HOF := Lib.hid (opp_of HOK.out)
      have HC := Lib.hid (show oppC r = 3 by rw [HOF.out.2.2.2, HFEW.out]; rfl)
      have HK := Lib.hid (show oppK r = 0 by rw [HOF.out.1]; unfold fewK; rw [HFEW.out]; rfl)
      have HA := Lib.hid (show oppA r = [] by rw [HOF.out.2.1]; unfold fewA; rw [HFEW.out]; rfl)
      have HN := Lib.hid (show oppN r = [] by rw [HOF.out.2.2.1]; unfold fewN; rw [HFEW.out]; rfl)
      have hf' : 150 < n4 := by omega
      go_wp2_with fail
      refine (told_many kk a4 b4 n4 c4 m4 d4 w4 hf' HT8.out).mono ?_
      rintro e w5 ⟨rfl, hb5⟩
      have HB5 := Lib.hid (show Below (w.heap.size + 2) W2 w5 from HB4.out.trans (hb5.mono (by have := HB4.out.size; rw [HSZ.out] at this; exact this)))
      clear hb5
      have hres : w5.heap[w.heap.size + 1]? = some (.cells #[Value.int .i64 0, .int .i64 0, .slice none 0 0, .slice none 0 0] 27 (0, 0)) := (HB5.out.block _ (Nat.lt_succ_self _)).trans HRES.out
      have r0 := cells_get hres 0
      have r1 := cells_get hres 1
      have r2 := cells_get hres 2
      have r3 := cells_get hres 3
      have f0 := cells_free hres 0
      have f1 := cells_free hres 1
      have f2 := cells_free hres 2
      have f3 := cells_free hres 3
      have hlS := lt_of_block hres
      have p0 := cells_set hres 0 (.int .i64 0)
      have p1 := cells_set p0 1 (.int .i64 0)
      have p2 := cells_set p1 2 (Value.slice none 0 0)
      have p3 := cells_set p2 3 (Value.slice none 0 0)
      simp at r0 r1 r2 r3 p3
      have g0 := cells_get p3 0
      have g1 := cells_get p3 1
      have g2 := cells_get p3 2
      have g3 := cells_get p3 3
      simp at g0 g1 g2 g3
      have HG := Lib.hid (And.intro g0 (And.intro g1 (And.intro g2 g3)))
      clear p0 p1 p2 p3 g0 g1 g2 g3 hres
      go_wp2_with fail
      obtain ⟨g0, g1, g2, g3⟩ := HG.out
      refine bodyPost_ret (v := .tuple #[.agg #[.int .i64 0, .int .i64 0, .slice none 0 0, .slice none 0 0], .int .i64 3]) (by simp [results, Tryd.results11, go_sem, g0, g1, g2, g3]) rfl ⟨.slice none 0 0, .slice none 0 0, by rw [HC.out, HK.out], by rw [HA.out, HN.out]; exact ImplTidied.built_none _ _, ?_⟩
      have HX := HB2.out.trans (HB5.out.mono (show w.heap.size ≤ w.heap.size + 2 by omega))
      exact (((((HX.setCell (p := ⟨w.heap.size + 1, 0, none⟩) (Nat.le_succ _) _).setCell (p := ⟨w.heap.size + 1, 1, none⟩) (Nat.le_succ _) _).setCell (p := ⟨w.heap.size + 1, 2, none⟩) (Nat.le_succ _) _).setCell (p := ⟨w.heap.size + 1, 3, none⟩) (Nat.le_succ _) _))
end Go.Proofs.YthebmpdkiocbmaaDoor.OppSpec
