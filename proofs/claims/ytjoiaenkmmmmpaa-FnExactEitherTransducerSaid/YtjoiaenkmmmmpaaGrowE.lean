
/- The program's function that adds edges to a machine that grows.
   Conditions: stated at each theorem. -/
import Derived.Test.YtjoiaenkmmmmpaaGrowS
import Derived.Test.YtjoiaenkmmmmpaaAddSpec
namespace Go.Proofs.Ytjoiaenkmmmmpaa.GrowE
set_option linter.unusedVariables false
set_option linter.unusedSimpArgs false
set_option maxRecDepth 100000
open Go.RowKit Mem Copy Rel Heap MarkRow Edg EdgCopy EdgEq TrHeap TrLawKit TrValid TrImplValid TurnImpl TurnSpec TrReach TrReached TrimKit AddSpec Grow GrowS

theorem At4.ofBlock {w w' : World} {b o : Nat} {e : E} (h : At4 w b o e) (hb : w'.heap[b]? = w.heap[b]?) : At4 w' b o e := by
  have e2 : ∀ i, w'.cell? ⟨b, i, none⟩ = w.cell? ⟨b, i, none⟩ := fun i => by unfold World.cell?; rw [hb]
  exact ⟨(e2 _).trans h.c0, (e2 _).trans h.c1, (e2 _).trans h.c2, (e2 _).trans h.c3⟩

set_option maxHeartbeats 8000000 in
theorem addEdges (te : List E) (ve : Value) (a : Nat) (Z C n : Nat) (s : Int) (ua un : Value) (A : List Bool) (es : List E) (w : World) (hed : Edges w w.heap.size ve te) (hb : BldG w C Z s ua un A es) (hin : Inside n te) (hn : n ≤ 1000) (hq : te.length ≤ 1000) (hes : es.length ≤ 100000) (ha : a ≤ 1000)
    (hne : 0 < te.length → ∀ b o l c, ve = .slice (some ⟨b, o, none⟩) l c → b ≠ Z ∧ un.ownBlock ≠ some b) :
    Calls Try.prog 82 #[.pointer (some ⟨Z, 0, none⟩), .int .i64 (a : Nat), ve] w fun e w' => Below C w w' ∧
      ((es.length + te.length ≤ 200 ∧ e = .returned (.tuple #[]) ∧ ∃ un', BldG w' C Z s ua un' A (es ++ te.map (shiftE a))) ∨
        (200 < es.length + te.length ∧ e = .panicked [{ v := .iface 109 (.agg #[]), recovered := false }])) := by
  have hZw := hb.lt
  have hZC := hb.obB
  obtain ⟨ab, bb, ob, cb, rfl, -, hbb, hcb⟩ := hed
  obtain ⟨q, hqq⟩ : ∃ q, q = te.length := ⟨_, rfl⟩
  rw [← hqq] at hq hbb hcb hne ⊢
  have HQ := Lib.hid hqq
  have HIN := Lib.hid hin
  have HN := Lib.hid hn
  have HC := Lib.hid (fun W (hb : W.heap[bb]? = w.heap[bb]?) (i : Nat) (hi : i < q) => (show At4 W bb (ob + i * 4) (te.getD i noE) from At4.ofBlock ((hcb i hi).1) hb))
  have HNE := Lib.hid (show 0 < q → bb ≠ Z ∧ un.ownBlock ≠ some bb from fun h => by
    obtain ⟨rfl, -⟩ := hbb h
    exact hne h _ _ _ _ rfl)
  have HAB := Lib.hid hbb
  have HB0 := Lib.hid hb
  clear hqq hbb hcb hb hin hn hne
  go_enter Try.func82, Try.ntmps82
  go_wp2_with fail
  go_loopw [10] (fun v10 wr => ∃ (k : Nat) (un' : Value), k ≤ q ∧ v10 = .int .i64 k ∧ BldG wr C Z s ua un' A (es ++ (te.take k).map (shiftE a)) ∧ Below C w wr ∧ (0 < q → wr.heap[bb]? = w.heap[bb]? ∧ un'.ownBlock ≠ some bb ∧ w.heap.size ≤ wr.heap.size)) (fun v10 _ => q - (intOf v10).toNat)
  case atStart => exact ⟨0, _, Nat.zero_le _, rfl, by have := HB0.out; simpa using this, Below.refl _ _, fun h => ⟨rfl, (HNE.out h).2, Nat.le_refl _⟩⟩
  case round =>
    obtain ⟨k, un', hk, rfl, hT, hbel, hkeep⟩ := hrel
    obtain ⟨an, nn, cn, rfl, HNN⟩ := hT.edg.shape'
    have HT2 := Lib.hid hT
    have HB2 := Lib.hid hbel
    have hCw : C ≤ wr.heap.size := by have := hT.lt; have := hT.obB; omega
    by_cases hlt : k < q
    · obtain ⟨rfl, hbbB⟩ := HAB.out (by omega)
      obtain ⟨hk1, hk2, hk3⟩ := hkeep (by omega)
      have h4 := HC.out _ hk1 k hlt
      have hi4 := HIN.out k (by rw [← HQ.out]; exact hlt)
      have hnx := shift_next a te k (by rw [← HQ.out]; exact hlt)
      obtain ⟨x, hx⟩ : ∃ x, x = te.getD k noE := ⟨_, rfl⟩
      rw [← hx] at h4 hi4 hnx
      clear hx
      obtain ⟨d0, d1, d2, d3⟩ := h4
      obtain ⟨xs, xd, xi, xo⟩ := x
      simp only at d0 d1 d2 d3 hi4
      obtain ⟨i0, i1, i2, i3⟩ := hi4
      obtain ⟨p, rfl⟩ := Int.eq_ofNat_of_zero_le i0
      obtain ⟨r, rfl⟩ := Int.eq_ofNat_of_zero_le i2
      have HEE := Lib.hid (show (te.take (k + 1)).map (shiftE a) = (te.take k).map (shiftE a) ++ [(⟨(a : Int) + (p : Int), (a : Int) + (r : Int), xi, xo⟩ : E)] from by
        rw [hnx]
        unfold shiftE
        rw [Int.add_comm (a : Int) (p : Int), Int.add_comm (a : Int) (r : Int)])
      have lbb : bb < wr.heap.size := by omega
      have hwr1 : IntKind.i64.wrap ((a : Int) + (p : Int)) = (a : Int) + p := by rw [IntKind.wrap_i64]; have := HN.out; omega
      have hwr2 : IntKind.i64.wrap ((a : Int) + (r : Int)) = (a : Int) + r := by rw [IntKind.wrap_i64]; have := HN.out; omega
      have HT3 := Lib.hid (HT2.out.alloc (boxE ⟨(p : Nat), (r : Nat), xi, xo⟩))
      have HB3 := Lib.hid (Below.alloc HB2.out hCw (boxE ⟨(p : Nat), (r : Nat), xi, xo⟩))
      have HLE := Lib.hid (show (es ++ (te.take k).map (shiftE a)).length ≤ 100000000 by rw [List.length_append, List.length_map, List.length_take]; omega)
      have HROW := Lib.hid (show ∀ b, (Value.slice an nn cn).ownBlock = some b → b < wr.heap.size from fun b hb => HT2.out.edg.lt hb)
      have hbx := heap_alloc_new wr (boxE ⟨(p : Nat), (r : Nat), xi, xo⟩)
      obtain ⟨t0, -⟩ := cell_of_block hbx 0
      obtain ⟨t1, -⟩ := cell_of_block hbx 1
      obtain ⟨t2, -⟩ := cell_of_block hbx 2
      obtain ⟨t3, -⟩ := cell_of_block hbx 3
      simp only [List.getElem?_toArray, List.getElem?_cons_zero, List.getElem?_cons_succ] at t0 t1 t2 t3
      have hN1 : wr.heap.size < (wr.alloc (boxE ⟨(p : Nat), (r : Nat), xi, xo⟩)).heap.size := by rw [size_alloc']; omega
      have hN2 : Z ≠ wr.heap.size := by have := HT2.out.lt; omega
      have hC1 : C ≤ (wr.alloc (boxE ⟨(p : Nat), (r : Nat), xi, xo⟩)).heap.size := by rw [size_alloc']; omega
      have hk4 : (wr.alloc (boxE ⟨(p : Nat), (r : Nat), xi, xo⟩)).heap[bb]? = w.heap[bb]? := (Below.heap_alloc _ _ _ lbb).trans hk1
      have hk5 : w.heap.size ≤ (wr.alloc (boxE ⟨(p : Nat), (r : Nat), xi, xo⟩)).heap.size := by rw [size_alloc']; omega
      clear hbx hnx hT hbel hkeep
      go_upto_region 3 with fail
      clear d0 d1 d2 d3 lbb i0 i1 i2 i3 hCw hZw hk1 hk3
      generalize hW1 : wr.alloc (.cells #[.int .i64 (p : Nat), .int .i64 (r : Nat), .string xi, .string xo] 50) = W1 at HT3 HB3 t0 t1 t2 t3 hN1 hC1 hk4 hk5 ⊢
      clear hW1
      generalize hN0 : wr.heap.size = N0 at HROW t0 t1 t2 t3 hN1 hN2 ⊢
      clear hN0 HT2 HB2
      have HTD := Lib.hid (HT3.out.below ((Below.refl _ _).drew))
      have HBD := Lib.hid (show Below C w W1.drew from Below.drew HB3.out)
      have HCD := Lib.hid (show C ≤ W1.drew.heap.size from hC1)
      have HSS := Lib.hid (show ∀ W : World, (∀ i, W.cell? ⟨N0, i, none⟩ = W1.cell? ⟨N0, i, none⟩) → (fun W : World => W.cell? ⟨N0, 0, none⟩ = some (.int .i64 (p : Nat)) ∧ W.cell? ⟨N0, 1, none⟩ = some (.int .i64 (r : Nat)) ∧ W.cell? ⟨N0, 2, none⟩ = some (.string xi) ∧ W.cell? ⟨N0, 3, none⟩ = some (.string xo)) W from fun W he => ⟨(he 0).trans t0, (he 1).trans t1, (he 2).trans t2, (he 3).trans t3⟩)
      have HSD := Lib.hid (HSS.out W1.drew (fun _ => rfl))
      have HSX := Lib.hid (HSS.out (W1.drew.alloc (boxE (⟨(a : Int) + (p : Int), (a : Int) + (r : Int), xi, xo⟩ : E))) (fun i => World.cell?_alloc_lt _ _ _ hN1))
      have HSG := Lib.hid (show ∀ v6 w6, PushedE W1.drew w6 C (.slice an nn cn) v6 (es ++ (te.take k).map (shiftE a)) (⟨(a : Int) + (p : Int), (a : Int) + (r : Int), xi, xo⟩ : E) → (fun W : World => W.cell? ⟨N0, 0, none⟩ = some (.int .i64 (p : Nat)) ∧ W.cell? ⟨N0, 1, none⟩ = some (.int .i64 (r : Nat)) ∧ W.cell? ⟨N0, 2, none⟩ = some (.string xi) ∧ W.cell? ⟨N0, 3, none⟩ = some (.string xo)) w6 from fun v6 w6 hp6 => by
        have e0 : w6.heap[N0]? = W1.drew.heap[N0]? := hp6.grow.block N0 hN1 (fun e => by have := HROW.out N0 e.symm; omega)
        exact HSS.out w6 (fun i => by unfold World.cell?; rw [e0]; rfl))
      have HXX := Lib.hid (show ∀ v6 w6, PushedE W1.drew w6 C (.slice an nn cn) v6 (es ++ (te.take k).map (shiftE a)) (⟨(a : Int) + (p : Int), (a : Int) + (r : Int), xi, xo⟩ : E) → (w6.setCell ⟨Z, 2, none⟩ v6).heap[bb]? = w.heap[bb]? ∧ v6.ownBlock ≠ some bb ∧ w.heap.size ≤ (w6.setCell ⟨Z, 2, none⟩ v6).heap.size from fun v6 w6 hp6 => by
        have e0 : w6.heap[bb]? = W1.drew.heap[bb]? := hp6.grow.block bb (by show bb < W1.heap.size; omega) (fun e => hk2 e.symm)
        refine ⟨(Below.heap_setCell _ _ _ _ (fun e => (HNE.out (by omega)).1 e)).trans (e0.trans hk4), fun e => ?_, ?_⟩
        · rcases hp6.at_ with h1 | ⟨g, h1, h2⟩
          · exact hk2 (h1 ▸ e)
          · rw [h1] at e
            have e : g = bb := Option.some.inj e
            have h2 : W1.heap.size ≤ g := h2
            omega
        · have h1 : W1.heap.size ≤ w6.heap.size := hp6.grow.size
          have h2 : (w6.setCell ⟨Z, 2, none⟩ v6).heap.size = w6.heap.size := by simp [World.setCell]
          omega)
      have HSZ := Lib.hid (show ∀ (v6 : Value) (w6 : World), (fun W : World => W.cell? ⟨N0, 0, none⟩ = some (.int .i64 (p : Nat)) ∧ W.cell? ⟨N0, 1, none⟩ = some (.int .i64 (r : Nat)) ∧ W.cell? ⟨N0, 2, none⟩ = some (.string xi) ∧ W.cell? ⟨N0, 3, none⟩ = some (.string xo)) w6 → (fun W : World => W.cell? ⟨N0, 0, none⟩ = some (.int .i64 (p : Nat)) ∧ W.cell? ⟨N0, 1, none⟩ = some (.int .i64 (r : Nat)) ∧ W.cell? ⟨N0, 2, none⟩ = some (.string xi) ∧ W.cell? ⟨N0, 3, none⟩ = some (.string xo)) (w6.setCell ⟨Z, 2, none⟩ v6) from fun v6 w6 hS => by
        have he : ∀ i, (w6.setCell ⟨Z, 2, none⟩ v6).cell? ⟨N0, i, none⟩ = w6.cell? ⟨N0, i, none⟩ := fun i => by
          unfold World.cell?
          rw [Below.heap_setCell _ _ _ _ (fun e => hN2 e.symm)]
        exact ⟨(he 0).trans hS.1, (he 1).trans hS.2.1, (he 2).trans hS.2.2.1, (he 3).trans hS.2.2.2⟩)
      have b2 := (cell_of_block HTD.out.at_ 2).1
      simp at b2
      have b5 := (cell_of_block HTD.out.at_ 2).2
      have b6 : Z < W1.heap.size := HT3.out.lt
      have b8 : W1.cell? ⟨Z, 2, none⟩ = some (.slice an nn cn) := (cell_of_block HT3.out.at_ 2).1
      clear t0 t1 t2 t3 hk4
      refine wp_region_held_drew (S := (fun W : World => W.cell? ⟨N0, 0, none⟩ = some (.int .i64 (p : Nat)) ∧ W.cell? ⟨N0, 1, none⟩ = some (.int .i64 (r : Nat)) ∧ W.cell? ⟨N0, 2, none⟩ = some (.string xi) ∧ W.cell? ⟨N0, 3, none⟩ = some (.string xo))) (by kernel_rfl) ?hS (fun hHeld => ?hR)
      case hS => (first | exact HSD.out | exact HSX.out | exact HSW.out | exact HS6.out)
      refine wpAnyH_take (i := 0) (v := ?v1) rfl (by kernel_rfl) (by kernel_rfl) (by kernel_rfl) (fun _ _ _ h => h) (Or.inl ⟨by rfl, ?y1⟩) (by assumption) ?r1
      case y1 => (intro W hSw; (try dsimp only at hSw); go_simp; try with_reducible rfl)
      (try simp only [Act.put, List.setIfInBounds_toArray, List.set_cons_zero, List.set_cons_succ])
      refine wpAnyH_take (i := 1) (v := ?v2) rfl (by kernel_rfl) (by kernel_rfl) (by kernel_rfl) (fun _ _ _ h => h) (Or.inl ⟨by rfl, ?y2⟩) (by assumption) ?r2
      case y2 => (intro W hSw; (try dsimp only at hSw); go_simp; try with_reducible rfl)
      (try simp only [Act.put, List.setIfInBounds_toArray, List.set_cons_zero, List.set_cons_succ])
      refine wpAnyH_take (i := 2) (v := ?v3) rfl (by kernel_rfl) (by kernel_rfl) (by kernel_rfl) (fun _ _ _ h => h) (Or.inl ⟨by rfl, ?y3⟩) (by assumption) ?r3
      case y3 => (intro W hSw; (try dsimp only at hSw); go_simp; try with_reducible rfl)
      (try simp only [Act.put, List.setIfInBounds_toArray, List.set_cons_zero, List.set_cons_succ])
      refine wpAnyH_take (i := 3) (v := ?v4) rfl (by kernel_rfl) (by kernel_rfl) (by kernel_rfl) (fun _ _ _ h => h) (Or.inl ⟨by rfl, ?y4⟩) (by assumption) ?r4
      case y4 => (intro W hSw; (try dsimp only at hSw); go_simp; try with_reducible rfl)
      (try simp only [Act.put, List.setIfInBounds_toArray, List.set_cons_zero, List.set_cons_succ])
      refine wpAnyH_take (i := 4) (v := ?v5) rfl (by kernel_rfl) (by kernel_rfl) (by kernel_rfl) (fun _ _ _ h => h) (Or.inl ⟨by rfl, ?y5⟩) (by assumption) ?r5
      case y5 => (intro W hSw; (try dsimp only at hSw); go_simp; try with_reducible rfl)
      (try simp only [Act.put, List.setIfInBounds_toArray, List.set_cons_zero, List.set_cons_succ])
      refine wpAnyH_take (i := 6) (v := ?v6) rfl (by kernel_rfl) (by kernel_rfl) (by kernel_rfl) (fun _ _ _ h => h) (Or.inl ⟨by rfl, ?y6⟩) (by assumption) ?r6
      case y6 => (intro W hSw; (try dsimp only at hSw); go_simp; try with_reducible rfl)
      (try simp only [Act.put, List.setIfInBounds_toArray, List.set_cons_zero, List.set_cons_succ])
      refine wpAnyH_take (i := 7) (v := ?v7) rfl (by kernel_rfl) (by kernel_rfl) (by kernel_rfl) (fun _ _ _ h => h) (Or.inl ⟨by rfl, ?y7⟩) (by assumption) ?r7
      case y7 => (intro W hSw; (try dsimp only at hSw); go_simp; try with_reducible rfl)
      (try simp only [Act.put, List.setIfInBounds_toArray, List.set_cons_zero, List.set_cons_succ])
      refine wpAnyH_take (i := 8) (v := ?v8) rfl (by kernel_rfl) (by kernel_rfl) (by kernel_rfl) (fun _ _ _ h => h) (Or.inl ⟨by rfl, ?y8⟩) (by assumption) ?r8
      case y8 => (intro W hSw; (try dsimp only at hSw); go_simp; try with_reducible rfl)
      (try simp only [Act.put, List.setIfInBounds_toArray, List.set_cons_zero, List.set_cons_succ])
      refine wpAnyH_take (i := 9) (v := ?v9) rfl (by kernel_rfl) (by kernel_rfl) (by kernel_rfl) (fun _ _ _ h => h) (Or.inl ⟨by rfl, ?y9⟩) (by assumption) ?r9
      case y9 => (intro W hSw; (try dsimp only at hSw); go_simp; try with_reducible rfl)
      (try simp only [Act.put, List.setIfInBounds_toArray, List.set_cons_zero, List.set_cons_succ])
      refine wpAnyH_take (i := 10) (v := ?v10) rfl (by kernel_rfl) (by kernel_rfl) (by kernel_rfl) (fun _ _ _ h => h) (Or.inl ⟨by rfl, ?y10⟩) (by assumption) ?r10
      case y10 => (intro W hSw; (try dsimp only at hSw); go_simp; try with_reducible rfl)
      (try simp only [Act.put, List.setIfInBounds_toArray, List.set_cons_zero, List.set_cons_succ])
      refine wpAnyH_take (i := 11) (v := ?v11) rfl (by kernel_rfl) (by kernel_rfl) (by kernel_rfl) (fun _ _ _ h => h) (Or.inl ⟨by rfl, ?y11⟩) (by assumption) ?r11
      case y11 => (intro W hSw; (try dsimp only at hSw); go_simp; try with_reducible rfl)
      (try simp only [Act.put, List.setIfInBounds_toArray, List.set_cons_zero, List.set_cons_succ])
      refine wpAnyH_take (i := 12) (v := ?v12) rfl (by kernel_rfl) (by kernel_rfl) (by kernel_rfl) (fun _ _ _ h => h) (Or.inl ⟨by rfl, ?y12⟩) (by assumption) ?r12
      case y12 => (intro W hSw; (try dsimp only at hSw); go_simp; try with_reducible rfl)
      (try simp only [Act.put, List.setIfInBounds_toArray, List.set_cons_zero, List.set_cons_succ])
      refine wpAnyH_take (i := 13) (v := ?v13) rfl (by kernel_rfl) (by kernel_rfl) (by kernel_rfl) (fun _ _ _ h => h) (Or.inl ⟨by rfl, ?y13⟩) (by assumption) ?r13
      case y13 => (intro W hSw; (try dsimp only at hSw); go_simp; try with_reducible rfl)
      (try simp only [Act.put, List.setIfInBounds_toArray, List.set_cons_zero, List.set_cons_succ])
      refine wpAnyH_take (i := 14) (v := ?v14) rfl (by kernel_rfl) (by kernel_rfl) (by kernel_rfl) (fun _ _ _ h => h) (Or.inl ⟨by rfl, ?y14⟩) (by assumption) ?r14
      case y14 => (intro W hSw; (try dsimp only at hSw); go_simp; try with_reducible rfl)
      (try simp only [Act.put, List.setIfInBounds_toArray, List.set_cons_zero, List.set_cons_succ])
      refine wpAnyH_take (i := 15) (v := ?v15) rfl (by kernel_rfl) (by kernel_rfl) (by kernel_rfl) (fun _ _ _ h => h) (Or.inl ⟨by rfl, ?y15⟩) (by assumption) ?r15
      case y15 => (intro W hSw; (try dsimp only at hSw); go_simp; try with_reducible rfl)
      (try simp only [Act.put, List.setIfInBounds_toArray, List.set_cons_zero, List.set_cons_succ])
      refine wpAnyH_take (i := 16) (v := ?v16) rfl (by kernel_rfl) (by kernel_rfl) (by kernel_rfl) (fun _ _ _ h => h) (Or.inl ⟨by rfl, ?y16⟩) (by assumption) ?r16
      case y16 => (intro W hSw; (try dsimp only at hSw); go_simp; try with_reducible rfl)
      (try simp only [Act.put, List.setIfInBounds_toArray, List.set_cons_zero, List.set_cons_succ])
      refine wpAnyH_take (i := 17) (v := ?v17) rfl (by kernel_rfl) (by kernel_rfl) (by kernel_rfl) (fun _ _ _ h => h) (Or.inl ⟨by rfl, ?y17⟩) (by assumption) ?r17
      case y17 => (intro W hSw; (try dsimp only at hSw); go_simp; try with_reducible rfl)
      (try simp only [Act.put, List.setIfInBounds_toArray, List.set_cons_zero, List.set_cons_succ])
      refine wpAnyH_take (i := 18) (v := ?v18) rfl (by kernel_rfl) (by kernel_rfl) (by kernel_rfl) (fun _ _ _ h => h) (Or.inl ⟨by rfl, ?y18⟩) (by assumption) ?r18
      case y18 => (intro W hSw; (try dsimp only at hSw); go_simp; try with_reducible rfl)
      (try simp only [Act.put, List.setIfInBounds_toArray, List.set_cons_zero, List.set_cons_succ])
      refine wpAnyH_ready (rs := [5, 19]) (by kernel_rfl) (by simp) ?_
      refine AllReadyH.cons rfl (fun K hK => ?_) (AllReadyH.cons rfl (fun K hK => ?_) AllReadyH.nil)
      · go_simp
        refine hK.out _ _ (by (first | exact HSD.out | exact HSX.out | exact HSW.out | exact HS6.out)) (fun hHeld => ?_)
        clear hK K
        (try simp only [Act.put, List.setIfInBounds_toArray, List.set_cons_zero, List.set_cons_succ])
        refine wpAnyH_ready (rs := [19]) (by kernel_rfl) (by simp) ?_
        refine AllReadyH.cons rfl (fun K hK => ?_) AllReadyH.nil
        · go_simp
          refine hK.out _ _ (by (first | exact HSD.out | exact HSX.out | exact HSW.out | exact HS6.out)) (fun hHeld => ?_)
          clear hK K
          (try simp only [Act.put, List.setIfInBounds_toArray, List.set_cons_zero, List.set_cons_succ])
          refine wpAnyH_ready (rs := [20]) (by kernel_rfl) (by simp) ?_
          refine AllReadyH.cons rfl (fun K hK => ?_) AllReadyH.nil
          · (refine step_pushE (by rfl) _ _ (by rfl) C (.slice an nn cn) _ (⟨(a : Int) + (p : Int), (a : Int) + (r : Int), xi, xo⟩ : E) HTD.out.edg HCD.out HLE.out (by rfl) _ (by rfl) (by rfl) ?_; intro v6 w6 hp6; obtain ⟨a6, n6, c6, rfl, -⟩ := hp6.lst.shape'; have ob6 := HTD.out.obE hp6; have u2 := (cell_of_block ob6 2).1; have u5 := (cell_of_block ob6 2).2; have u6 := lt_of_block ob6; simp at u2; have HSW := Lib.hid (HSG.out _ _ hp6); have HT6 := Lib.hid (HTD.out.pushE hp6); have HB6 := Lib.hid (Below.setCell (below_pushE HBD.out HTD.out.edg hp6 HCD.out) (p := ⟨Z, 2, none⟩) HTD.out.obB (.slice a6 n6 c6)); have HS6 := Lib.hid (HSZ.out (.slice a6 n6 c6) _ HSW.out); have HX6 := Lib.hid (HXX.out _ _ hp6); clear hp6 ob6)
            refine hK.out _ _ (by (first | exact HSD.out | exact HSX.out | exact HSW.out | exact HS6.out)) (fun hHeld => ?_)
            clear hK K
            (try simp only [Act.put, List.setIfInBounds_toArray, List.set_cons_zero, List.set_cons_succ])
            refine wpAnyH_take (i := 21) (v := ?v19) rfl (by kernel_rfl) (by kernel_rfl) (by kernel_rfl) (fun _ _ _ h => h) (Or.inl ⟨by rfl, ?y19⟩) (by assumption) ?r19
            case y19 => (intro W hSw; (try dsimp only at hSw); go_simp; try with_reducible rfl)
            (try simp only [Act.put, List.setIfInBounds_toArray, List.set_cons_zero, List.set_cons_succ])
            refine wpAnyH_take (i := 22) (v := ?v20) rfl (by kernel_rfl) (by kernel_rfl) (by kernel_rfl) (fun _ _ _ h => h) (Or.inl ⟨by rfl, ?y20⟩) (by assumption) ?r20
            case y20 => (intro W hSw; (try dsimp only at hSw); go_simp; try with_reducible rfl)
            (try simp only [Act.put, List.setIfInBounds_toArray, List.set_cons_zero, List.set_cons_succ])
            refine wpAnyH_take (i := 23) (v := ?v21) rfl (by kernel_rfl) (by kernel_rfl) (by kernel_rfl) (fun _ _ _ h => h) (Or.inl ⟨by rfl, ?y21⟩) (by assumption) ?r21
            case y21 => (intro W hSw; (try dsimp only at hSw); go_simp; try with_reducible rfl)
            (try simp only [Act.put, List.setIfInBounds_toArray, List.set_cons_zero, List.set_cons_succ])
            refine wpAnyH_ready (rs := [24]) (by kernel_rfl) (by simp) ?_
            refine AllReadyH.cons rfl (fun K hK => ?_) AllReadyH.nil
            · go_simp
              refine hK.out _ _ (by (first | exact HSD.out | exact HSX.out | exact HSW.out | exact HS6.out)) (fun hHeld => ?_)
              clear hK K
              (try simp only [Act.put, List.setIfInBounds_toArray, List.set_cons_zero, List.set_cons_succ])
              refine wpAnyH_done (by kernel_rfl) ?_ _
              go_wp2_with fail
              go_roundw
              case rel => exact ⟨k + 1, _, by omega, by go_num, by rw [HEE.out, ← List.append_assoc]; exact HT6.out, HB6.out, fun _ => HX6.out⟩
              case measure => simp [intOf]; omega
      · go_simp
        refine hK.out _ _ (by (first | exact HSD.out | exact HSX.out | exact HSW.out | exact HS6.out)) (fun hHeld => ?_)
        clear hK K
        (try simp only [Act.put, List.setIfInBounds_toArray, List.set_cons_zero, List.set_cons_succ])
        refine wpAnyH_ready (rs := [5]) (by kernel_rfl) (by simp) ?_
        refine AllReadyH.cons rfl (fun K hK => ?_) AllReadyH.nil
        · go_simp
          refine hK.out _ _ (by (first | exact HSD.out | exact HSX.out | exact HSW.out | exact HS6.out)) (fun hHeld => ?_)
          clear hK K
          (try simp only [Act.put, List.setIfInBounds_toArray, List.set_cons_zero, List.set_cons_succ])
          refine wpAnyH_ready (rs := [20]) (by kernel_rfl) (by simp) ?_
          refine AllReadyH.cons rfl (fun K hK => ?_) AllReadyH.nil
          · (refine step_pushE (by rfl) _ _ (by rfl) C (.slice an nn cn) _ (⟨(a : Int) + (p : Int), (a : Int) + (r : Int), xi, xo⟩ : E) HTD.out.edg HCD.out HLE.out (by rfl) _ (by rfl) (by rfl) ?_; intro v6 w6 hp6; obtain ⟨a6, n6, c6, rfl, -⟩ := hp6.lst.shape'; have ob6 := HTD.out.obE hp6; have u2 := (cell_of_block ob6 2).1; have u5 := (cell_of_block ob6 2).2; have u6 := lt_of_block ob6; simp at u2; have HSW := Lib.hid (HSG.out _ _ hp6); have HT6 := Lib.hid (HTD.out.pushE hp6); have HB6 := Lib.hid (Below.setCell (below_pushE HBD.out HTD.out.edg hp6 HCD.out) (p := ⟨Z, 2, none⟩) HTD.out.obB (.slice a6 n6 c6)); have HS6 := Lib.hid (HSZ.out (.slice a6 n6 c6) _ HSW.out); have HX6 := Lib.hid (HXX.out _ _ hp6); clear hp6 ob6)
            refine hK.out _ _ (by (first | exact HSD.out | exact HSX.out | exact HSW.out | exact HS6.out)) (fun hHeld => ?_)
            clear hK K
            (try simp only [Act.put, List.setIfInBounds_toArray, List.set_cons_zero, List.set_cons_succ])
            refine wpAnyH_take (i := 21) (v := ?v22) rfl (by kernel_rfl) (by kernel_rfl) (by kernel_rfl) (fun _ _ _ h => h) (Or.inl ⟨by rfl, ?y22⟩) (by assumption) ?r22
            case y22 => (intro W hSw; (try dsimp only at hSw); go_simp; try with_reducible rfl)
            (try simp only [Act.put, List.setIfInBounds_toArray, List.set_cons_zero, List.set_cons_succ])
            refine wpAnyH_take (i := 22) (v := ?v23) rfl (by kernel_rfl) (by kernel_rfl) (by kernel_rfl) (fun _ _ _ h => h) (Or.inl ⟨by rfl, ?y23⟩) (by assumption) ?r23
            case y23 => (intro W hSw; (try dsimp only at hSw); go_simp; try with_reducible rfl)
            (try simp only [Act.put, List.setIfInBounds_toArray, List.set_cons_zero, List.set_cons_succ])
            refine wpAnyH_take (i := 23) (v := ?v24) rfl (by kernel_rfl) (by kernel_rfl) (by kernel_rfl) (fun _ _ _ h => h) (Or.inl ⟨by rfl, ?y24⟩) (by assumption) ?r24
            case y24 => (intro W hSw; (try dsimp only at hSw); go_simp; try with_reducible rfl)
            (try simp only [Act.put, List.setIfInBounds_toArray, List.set_cons_zero, List.set_cons_succ])
            refine wpAnyH_ready (rs := [24]) (by kernel_rfl) (by simp) ?_
            refine AllReadyH.cons rfl (fun K hK => ?_) AllReadyH.nil
            · go_simp
              refine hK.out _ _ (by (first | exact HSD.out | exact HSX.out | exact HSW.out | exact HS6.out)) (fun hHeld => ?_)
              clear hK K
              (try simp only [Act.put, List.setIfInBounds_toArray, List.set_cons_zero, List.set_cons_succ])
              refine wpAnyH_done (by kernel_rfl) ?_ _
              go_wp2_with fail
              go_roundw
              case rel => exact ⟨k + 1, _, by omega, by go_num, by rw [HEE.out, ← List.append_assoc]; exact HT6.out, HB6.out, fun _ => HX6.out⟩
              case measure => simp [intOf]; omega
    · obtain rfl : k = q := by omega
      have HALL := Lib.hid (show te.take k = te by rw [List.take_of_length_le (by rw [← HQ.out]; exact Nat.le_refl _)])
      obtain rfl : nn = es.length + k := by rw [HNN.out, List.length_append, List.length_map, HALL.out, ← HQ.out]
      have HBE := Lib.hid (show BldG wr C Z s ua (.slice an (es.length + k) cn) A (es ++ te.map (shiftE a)) by have := HT2.out; rwa [HALL.out] at this)
      have b2 := (cell_of_block hT.at_ 2).1
      have b4 := (cell_of_block hT.at_ 4).1
      simp at b2 b4
      have b6 := hT.lt
      obtain ⟨p, hp⟩ : ∃ p, p = es.length + k := ⟨_, rfl⟩
      rw [← hp] at HBE b2
      have HP := Lib.hid hp
      clear hT hbel hlt hk hkeep HT2 HNN hp
      by_cases hle : p ≤ 200
      · have d1 : decide ((200 : Int) < (p : Int)) = false := by simp; omega
        go_upto_region 5 with fail
        go_quiet (fail)
        go_wp2
        go_end0
        exact ⟨below_drewN HB2.out _, .inl ⟨by rw [← HP.out]; exact hle, rfl, _, HBE.out.below (below_drewN (Below.refl _ _) _)⟩⟩
      · have d1 : decide ((200 : Int) < (p : Int)) = true := by simp; omega
        go_upto_region 5 with fail
        go_quiet (fail)
        go_wp2
        exact ⟨rfl, below_drewN HB2.out _, .inr ⟨by rw [← HP.out]; omega, rfl⟩⟩
end Go.Proofs.Ytjoiaenkmmmmpaa.GrowE
