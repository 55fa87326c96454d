
/- What the program's classesOf hands back: the classes of the states, if there are few.
   Conditions: stated at the theorem. -/
import Derived.Test.YthebmpdkiocbmaaDoorImplClasses
namespace Go.Proofs.YthebmpdkiocbmaaDoor.ImplClassesOf
set_option linter.unusedVariables false
set_option linter.unusedSimpArgs false
open Go.RowKit Go.Maps Mem Copy Rel Heap Bld TidyMath TidyClass TidyAuto SpecFiner Sigs MarkRow ImplClasses

set_option maxRecDepth 100000 in
set_option maxHeartbeats 8000000 in
theorem classesOf (A : Au) (rows : List (List Nat)) (wd : Nat) (hR : RowsOk rows A.n wd) (hA : ∀ s, A.nx s = rows.getD s []) (hw : wd ≤ 26) (hn : A.n ≤ 1000000) (hn1 : 1 ≤ A.n) (mst : Nat) (hmst : mst ≤ 1000000)
    (accs : List Bool) (hac : accs.length = A.n) (hacc : ∀ s, s < A.n → accs.getD s false = A.acc s) (w : World) (B k : Nat) (va vn : Value) (ha : Bools w B va accs) (hx : IntRows w B vn (rows.map ofN)) (hB : B ≤ w.heap.size) :
    Calls Tryd.prog 112 #[.agg #[.int .i64 k, .int .i64 1, va, vn], .int .i64 mst] w fun e w' =>
      ∃ (av : Option Addr) (nv cv : Nat), e = .returned (.tuple #[.slice av nv cv, .bool (decide (TidyAuto.most A ≤ mst))]) ∧ Below w.heap.size w w' ∧ (TidyAuto.most A ≤ mst → Lst w' w.heap.size 21 (.slice av nv cv) (tw A.n (cls A (TidyAuto.stop A + 1)))) := by
  have HREC := Lib.hid (refine A rows wd hR hA hw hn hn1 mst hmst (TidyAuto.stop A) 0 (by omega))
  have HX := Lib.hid (fun W (hb : Below w.heap.size w W) => hx.below hb hB)
  have HAC := Lib.hid (fun W (hb : Below w.heap.size w W) => ha.below hb hB)
  obtain ⟨n, hnn⟩ : ∃ n, n = A.n := ⟨_, rfl⟩
  have HNN := Lib.hid hnn
  have hrl : rows.length = n := by rw [hR.1, hnn]
  obtain ⟨aa, ba, oa, ca, rfl, hma, haa, hca⟩ := ha
  obtain ⟨-, ⟨ab, bb, ob, cb, rfl, hmb, -, -⟩, -⟩ := hx
  rw [hac, ← hnn] at haa hca HAC hma ⊢
  rw [List.length_map, hrl] at HX hmb ⊢
  rw [← hnn] at hn hn1 hacc
  have HCA := Lib.hid (And.intro haa hca)
  have HACC := Lib.hid hacc
  have hmm := @run_makeMap Tryd.prog
  have hmf : ∀ (fn : Fn) (first cap : Array Value) (w : World), (Instr.makeFunc fn first cap).run Tryd.prog w = .ok (.func fn first cap) w := fun _ _ _ _ => rfl
  have hst : ∀ (a : Addr) (fn : Fn) (f c : Array Value) (w : World), (store a (.func fn f c)).run Tryd.prog w = stored Tryd.prog w a (.func fn f c) .plain := fun a fn f c w => run_store Tryd.prog w a _ .plain rfl
  have hmk := run_make_row' (P := Tryd.prog) 138 21 (.int .i32 0) 4 Tryd.underlying138 info32 rfl .i64 .i64 n (by omega) (by omega)
  clear hR hA hac hacc haa hca hnn hrl
  go_enter Tryd.func112, Tryd.ntmps112
  have HW := Lib.hid (show ∃ W, W = ((((((w.alloc (.cells #[.int .i64 k, .int .i64 1, .slice aa n ca, .slice ab n cb] 27)).alloc (.cells #[.int .i64 mst] 3)).alloc (.map #[] 0)).alloc (.cells #[.map (some (w.heap.size + 1 + 1))] 148)).alloc (.cells #[.func (.func 118) #[] #[.pointer (some ⟨w.heap.size + 1 + 1 + 1, 0, none⟩), .pointer (some ⟨w.heap.size, 0, none⟩), .pointer (some ⟨w.heap.size + 1, 0, none⟩), .pointer (some ⟨w.heap.size + 1 + 1 + 1 + 1, 0, none⟩)]] 149))).alloc (.cells (madeCells #[Value.int .i32 0] n) 21) from ⟨_, rfl⟩)
  go_wp2_with fail
  obtain ⟨W, hW⟩ := HW.out
  rw [← hW]
  obtain ⟨W1, hW1⟩ : ∃ W1, W1 = w.alloc (.cells #[.int .i64 k, .int .i64 1, .slice aa n ca, .slice ab n cb] 27) := ⟨_, rfl⟩
  rw [← hW1] at hW
  obtain ⟨W2, hW2⟩ : ∃ W2, W2 = W1.alloc (.cells #[.int .i64 mst] 3) := ⟨_, rfl⟩
  rw [← hW2] at hW
  obtain ⟨W3, hW3⟩ : ∃ W3, W3 = W2.alloc (.map #[] 0) := ⟨_, rfl⟩
  rw [← hW3] at hW
  obtain ⟨W4, hW4⟩ : ∃ W4, W4 = W3.alloc (.cells #[.map (some (w.heap.size + 1 + 1))] 148) := ⟨_, rfl⟩
  rw [← hW4] at hW
  obtain ⟨W5, hW5⟩ : ∃ W5, W5 = W4.alloc (.cells #[.func (.func 118) #[] #[.pointer (some ⟨w.heap.size + 1 + 1 + 1, 0, none⟩), .pointer (some ⟨w.heap.size, 0, none⟩), .pointer (some ⟨w.heap.size + 1, 0, none⟩), .pointer (some ⟨w.heap.size + 1 + 1 + 1 + 1, 0, none⟩)]] 149) := ⟨_, rfl⟩
  rw [← hW5] at hW
  obtain ⟨M, hM⟩ : ∃ M, M = w.heap.size := ⟨_, rfl⟩
  rw [← hM] at hW4 hW5 HX HAC hB ⊢
  have s1 : W1.heap.size = M + 1 := by rw [hW1, size_alloc', hM]
  have s2 : W2.heap.size = M + 1 + 1 := by rw [hW2, size_alloc', s1]
  have s3 : W3.heap.size = M + 1 + 1 + 1 := by rw [hW3, size_alloc', s2]
  have s4 : W4.heap.size = M + 1 + 1 + 1 + 1 := by rw [hW4, size_alloc', s3]
  have s5 : W5.heap.size = M + 1 + 1 + 1 + 1 + 1 := by rw [hW5, size_alloc', s4]
  have a1 : ∀ q, q < M + 1 → W.heap[q]? = W1.heap[q]? := fun q hq => by
    rw [hW, Below.heap_alloc _ _ _ (by omega), hW5, Below.heap_alloc _ _ _ (by omega), hW4, Below.heap_alloc _ _ _ (by omega), hW3, Below.heap_alloc _ _ _ (by omega), hW2, Below.heap_alloc _ _ _ (by omega)]
  have t0 : W.heap[M]? = some (.cells #[.int .i64 k, .int .i64 1, .slice aa n ca, .slice ab n cb] 27 (0, 0)) := by
    rw [a1 M (by omega), hW1, hM]; exact heap_alloc_new _ _
  have t1 : W.heap[M + 1]? = some (.cells #[.int .i64 mst] 3 (0, 0)) := by
    rw [hW, Below.heap_alloc _ _ _ (by omega), hW5, Below.heap_alloc _ _ _ (by omega), hW4, Below.heap_alloc _ _ _ (by omega), hW3, Below.heap_alloc _ _ _ (by omega), hW2, ← s1]; exact heap_alloc_new _ _
  have t3 : W.heap[M + 1 + 1 + 1]? = some (.cells #[.map (some (M + 1 + 1))] 148 (0, 0)) := by
    rw [hW, Below.heap_alloc _ _ _ (by omega), hW5, Below.heap_alloc _ _ _ (by omega), hW4, ← s3]; exact heap_alloc_new _ _
  have t4 : W.heap[M + 1 + 1 + 1 + 1]? = some (.cells #[.func (.func 118) #[] #[.pointer (some ⟨M + 1 + 1 + 1, 0, none⟩), .pointer (some ⟨M, 0, none⟩), .pointer (some ⟨M + 1, 0, none⟩), .pointer (some ⟨M + 1 + 1 + 1 + 1, 0, none⟩)]] 149 (0, 0)) := by
    rw [hW, Below.heap_alloc _ _ _ (by omega), hW5]
    have := heap_alloc_new W4 (.cells #[.func (.func 118) #[] #[.pointer (some ⟨M + 1 + 1 + 1, 0, none⟩), .pointer (some ⟨M, 0, none⟩), .pointer (some ⟨M + 1, 0, none⟩), .pointer (some ⟨M + 1 + 1 + 1 + 1, 0, none⟩)]] 149)
    rwa [s4] at this
  have t2 : W.ownsMap Tryd.prog 151 (plainElem Tryd.prog 21) (M + 1 + 1) 0 (.map [] : DataW Unit) := by
    rw [hW, hW5, hW4, hW3, ← s2]
    exact (((World.ownsMap_made _ _ _ _).alloc _).alloc _).alloc _
  have hbel : Below M w W := by
    rw [hW, hW5, hW4, hW3, hW2, hW1]
    refine Below.alloc (Below.alloc (Below.alloc (Below.alloc (Below.alloc (Below.alloc (Below.refl _ _) (by omega) _) ?_ _) ?_ _) ?_ _) ?_ _) ?_ _
    all_goals (simp only [size_alloc']; omega)
  have HL0 := Lib.hid (show Lst W M 21 (.slice (some ⟨M + 1 + 1 + 1 + 1 + 1, 0, none⟩) n n) (tw n (fun i => if i < 0 then cls A 0 i else 0)) by
    have h1 := Lst.made W5 M 21 (.int .i32 0) n (by omega) (by unfold maxLen; omega)
    rw [tw_rep, s5, ← hW] at h1
    exact h1)
  have HCTX := Lib.hid (show Ctx W (M + 1 + 1) (M + 1 + 1 + 1) M (M + 1) (M + 1 + 1 + 1 + 1) k mst (.slice aa n ca) (.slice ab n cb) from ⟨t3, t0, t1, t4⟩)
  have HMAP := Lib.hid t2
  have HBEL := Lib.hid hbel
  have HWS := Lib.hid (show M + 1 + 1 + 1 + 1 + 1 < W.heap.size by rw [hW, size_alloc', s5]; omega)
  clear hW hW1 hW2 hW3 hW4 hW5 s1 s2 s3 s4 s5 a1 t0 t1 t2 t3 t4 hbel HW hst hmm hmf hmk
  have HMM := Lib.hid hM
  clear hM
  go_loopw [20] (fun s20 wr => ∃ s, s ≤ n ∧ s20 = .int .i64 s ∧ Lst wr M 21 (.slice (some ⟨M + 1 + 1 + 1 + 1 + 1, 0, none⟩) n n) (tw n (fun i => if i < s then cls A 0 i else 0)) ∧ Below (M + 1 + 1 + 1 + 1 + 1) W wr) (fun s20 _ => 1000010 - (intOf s20).toNat)
  case atStart => exact ⟨0, Nat.zero_le _, rfl, HL0.out, Below.refl _ _⟩
  case round =>
    obtain ⟨s, hs, rfl, hlst, hb⟩ := hrel
    have HL := Lib.hid hlst
    have HB := Lib.hid hb
    clear hlst hb HL0
    by_cases hlt : s < n
    · have h1 := HCA.out.1 (by omega)
      obtain ⟨rfl, hba⟩ := h1
      have cA := ((HBEL.out.trans (HB.out.mono (by omega))).cell (p := ⟨ba, oa + s, none⟩) (by show ba < M; omega)).trans (HCA.out.2 s hlt)
      have lA := World.block_lt_of_cell? _ _ cA
      rw [HACC.out s hlt] at cA
      have c7 := HL.out.cellOf (i := s) (by rw [tw_length]; exact hlt)
      rw [tw_get, if_neg (Nat.lt_irrefl s)] at c7
      have f7 := HL.out.free s
      have l7 := World.block_lt_of_cell? _ _ c7
      have hcl : cls A 0 s = if A.acc s = true then 1 else 0 := rfl
      obtain ⟨u, hu⟩ : ∃ u, u = A.acc s := ⟨_, rfl⟩
      rw [← hu] at cA hcl
      have HST := Lib.hid (show ∀ i, (if i < s + 1 then cls A 0 i else 0) = if i = s then cls A 0 s else if i < s then cls A 0 i else 0 from fun i => by
        by_cases e : i = s
        · subst e; simp
        · have : (i < s + 1) = (i < s) := by apply propext; constructor <;> intro h <;> omega
          simp [e, this])
      clear hu hba
      cases u with
      | true =>
        have HCL := Lib.hid hcl
        clear hcl
        go_wp2_with fail
        go_roundw
        case rel =>
          have h1 := HL.out.set (i := s) (by rw [tw_length]; exact hlt) (.int .i32 ((1 : Nat) : Int))
          rw [tw_set] at h1
          refine ⟨s + 1, hlt, by go_num, ?_, HB.out.setCell (p := ⟨M + 1 + 1 + 1 + 1 + 1, s, none⟩) (Nat.le_refl _) _⟩
          rw [tw_congr (S := fun i => if i = s then 1 else if i < s then cls A 0 i else 0) (fun i _ => by rw [HST.out i, HCL.out]; simp)]
          exact h1
        case measure => simp [intOf]; omega
      | false =>
        have HCL := Lib.hid hcl
        clear hcl
        go_wp2_with fail
        go_roundw
        case rel =>
          refine ⟨s + 1, hlt, by go_num, ?_, HB.out⟩
          rw [tw_congr (S := fun i => if i < s then cls A 0 i else 0) (fun i _ => by
            rw [HST.out i, HCL.out]
            by_cases e : i = s
            · simp [e]
            · simp [e])]
          exact HL.out
        case measure => simp [intOf]; omega
    · obtain rfl : n = s := by omega
      have HG := Lib.hid (show w.grownBy wr none from below_none (by rw [← HMM.out]; exact HBEL.out.trans (HB.out.mono (by omega))))
      have hc : Ctx wr (M + 1 + 1) (M + 1 + 1 + 1) M (M + 1) (M + 1 + 1 + 1 + 1) k mst (.slice aa n ca) (.slice ab n cb) :=
        ⟨by rw [HB.out.block _ (by omega)]; exact HCTX.out.box2, by rw [HB.out.block _ (by omega)]; exact HCTX.out.box3, by rw [HB.out.block _ (by omega)]; exact HCTX.out.box4, by rw [HB.out.block _ (by omega)]; exact HCTX.out.box5⟩
      have hm : wr.ownsMap Tryd.prog 151 (plainElem Tryd.prog 21) (M + 1 + 1) 0 (.map [] : DataW Unit) := by
        obtain ⟨es, clock, h1, h2⟩ := HMAP.out
        exact ⟨es, clock, (HB.out.block _ (by omega)).trans h1, h2⟩
      have hb0 := HBEL.out.trans (HB.out.mono (show M ≤ M + 1 + 1 + 1 + 1 + 1 by omega))
      have k5 := cells_get hc.box5 0
      simp at k5
      have lk5 := lt_of_block hc.box5
      have HRC := Lib.hid (show Calls Tryd.prog 118 #[.slice (some ⟨M + 1 + 1 + 1 + 1 + 1, 0, none⟩) n n, .int .i64 0, .pointer (some ⟨M + 1 + 1 + 1, 0, none⟩), .pointer (some ⟨M, 0, none⟩), .pointer (some ⟨M + 1, 0, none⟩), .pointer (some ⟨M + 1 + 1 + 1 + 1, 0, none⟩)] wr fun e w' =>
          ∃ (av : Option Addr) (nv cv : Nat), e = .returned (.tuple #[.slice av nv cv, .bool (decide (TidyAuto.most A ≤ mst))]) ∧ wr.grownBy w' (some (M + 1 + 1)) ∧ (TidyAuto.most A ≤ mst → Lst w' M 21 (.slice av nv cv) (tw A.n (cls A (TidyAuto.stop A + 1)))) from
        HREC.out wr (.slice (some ⟨M + 1 + 1 + 1 + 1 + 1, 0, none⟩) n n) M M (M + 1 + 1) (M + 1 + 1 + 1) M (M + 1) (M + 1 + 1 + 1 + 1) k 0 (.slice aa n ca) ab cb (.map []) (by rw [← HNN.out]; exact hc) (by rw [← HNN.out]; exact (HX.out _ hb0).mono hB) (by omega) hm
          (by rw [← HNN.out]; have h1 := HL.out; rw [tw_congr (S := cls A 0) (fun i hi => if_pos hi)] at h1; exact h1) (by have := hb0.size; have := HMM.out; omega))
      have HB0 := Lib.hid hb0
      clear hc hm hb0
      go_wp2_with (go_at_call 118; refine HRC.out.mono ?_; rintro e w3 ⟨av3, nv3, cv3, rfl, hg3, hl3⟩; have HG3 := Lib.hid hg3; have HL3 := Lib.hid hl3; clear hg3 hl3)
      refine bodyPost_ret (v := .tuple #[.slice av3 nv3 cv3, .bool (decide (TidyAuto.most A ≤ mst))]) (by simp [results, Tryd.results112, go_sem]) rfl ⟨av3, nv3, cv3, rfl, ?_, ?_⟩
      rw [← HMM.out]
      exact HB0.out.grown HG3.out (by have := HB0.out.size; have := HMM.out; omega) (fun q e => by cases e; omega)
      rw [← HMM.out, HNN.out]
      exact HL3.out
end Go.Proofs.YthebmpdkiocbmaaDoor.ImplClassesOf
