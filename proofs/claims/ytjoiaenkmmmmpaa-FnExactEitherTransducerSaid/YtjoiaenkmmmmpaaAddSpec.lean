
/- The model's function that sets the edges of a transducer, moved, behind those of another.
   Conditions: stated at each theorem. -/
import Derived.Test.YtjoiaenkmmmmpaaTrimKit
namespace Go.Proofs.Ytjoiaenkmmmmpaa.AddSpec
set_option linter.unusedVariables false
set_option linter.unusedSimpArgs false
set_option maxRecDepth 100000
open Go.RowKit Mem Copy Rel Heap MarkRow Edg EdgCopy EdgEq TrHeap TrLawKit TrValid TrImplValid TurnImpl TurnSpec TrReach TrReached TrimKit

def shiftE (a : Nat) (e : E) : E := ⟨e.src + (a : Int), e.dst + (a : Int), e.inn, e.out⟩
theorem shift_next (a : Nat) (es : List E) (k : Nat) (h : k < es.length) : (es.take (k + 1)).map (shiftE a) = (es.take k).map (shiftE a) ++ [shiftE a (es.getD k noE)] := by
  rw [take_succ_getD es noE k h, List.map_append]; rfl

set_option maxHeartbeats 8000000 in
theorem addEdges (t : T) (va vn : Value) (bp : Nat) (a : Nat) (Z C : Nat) (s : Int) (ua un : Value) (A : List Bool) (es : List E) (w : World) (ht : TrPtr w C bp t va vn) (hbp : bp < C) (hb : BldT w C Z s ua un A es) (hin : Inside t.accept.length t.edges) (hn : t.accept.length ≤ 1000) (hq : t.edges.length ≤ 1000) (hes : es.length ≤ 100000) (ha : a ≤ 1000) :
    Calls Try.prog 53 #[.pointer (some ⟨Z, 0, none⟩), .pointer (some ⟨bp, 0, none⟩), .int .i64 (a : Nat)] w fun e w' => e = .returned (.tuple #[]) ∧ ∃ un', BldT w' C Z s ua un' A (es ++ t.edges.map (shiftE a)) ∧ Below C w w' := by
  have hZw := hb.lt
  have hZC := hb.obB
  obtain ⟨⟨c0, c1, c2, -⟩, -, hed⟩ := ht
  obtain ⟨ts, ta, te⟩ := t
  simp only at c0 hed hin hn hq ⊢
  clear c0 c1
  obtain ⟨ab, bb, ob, cb, rfl, -, hbb, hcb⟩ := hed
  obtain ⟨q, hqq⟩ : ∃ q, q = te.length := ⟨_, rfl⟩
  rw [← hqq] at hq hbb hcb c2
  have HQ := Lib.hid hqq
  have HIN := Lib.hid hin
  have HN := Lib.hid hn
  have HC := Lib.hid (fun W (hb : Below C w W) (i : Nat) (hi : i < q) => (show At4 W bb (ob + i * 4) (te.getD i noE) from ((hcb i hi).1).below hb ((hbb (by omega)).2)))
  have HAB := Lib.hid hbb
  have HP2 := Lib.hid (fun W (hb : Below C w W) => (hb.cell (p := ⟨bp, 2, none⟩) hbp).trans c2)
  have HB0 := Lib.hid hb
  have HBP := Lib.hid hbp
  clear hqq hbb hcb c2 hb hin hn hbp
  go_enter Try.func53, Try.ntmps53
  go_wp2_with fail
  go_loopw [6] (fun v6 wr => ∃ (k : Nat) (un' : Value), k ≤ q ∧ v6 = .int .i64 k ∧ BldT wr C Z s ua un' A (es ++ (te.take k).map (shiftE a)) ∧ Below C w wr) (fun v6 _ => q - (intOf v6).toNat)
  case atStart => exact ⟨0, _, Nat.zero_le _, rfl, by have := HB0.out; simpa using this, Below.refl _ _⟩
  case round =>
    obtain ⟨k, un', hk, rfl, hT, hbel⟩ := hrel
    obtain ⟨an, nn, cn, rfl, HNN⟩ := hT.edg.shape'
    have HT2 := Lib.hid hT
    have HB2 := Lib.hid hbel
    have x2 := HP2.out _ hbel
    have hCw : C ≤ wr.heap.size := by have := hT.lt; have := hT.obB; omega
    have l0 : bp < wr.heap.size := by have := HBP.out; omega
    by_cases hlt : k < q
    · obtain ⟨rfl, hbbB⟩ := HAB.out (by omega)
      have h4 := HC.out _ hbel k hlt
      have hi4 := HIN.out k (by rw [← HQ.out]; exact hlt)
      have hnx := shift_next a te k (by rw [← HQ.out]; exact hlt)
      obtain ⟨x, hx⟩ : ∃ x, x = te.getD k noE := ⟨_, rfl⟩
      rw [← hx] at h4 hi4 hnx
      clear hx
      obtain ⟨d0, d1, d2, d3⟩ := h4
      obtain ⟨xs, xd, xi, xo⟩ := x
      simp only at d0 d1 d2 d3 hi4
      obtain ⟨i0, i1, i2, i3⟩ := hi4
      obtain ⟨p, rfl⟩ := Int.eq_ofNat_of_zero_le i0
      obtain ⟨r, rfl⟩ := Int.eq_ofNat_of_zero_le i2
      have HEE := Lib.hid (show (te.take (k + 1)).map (shiftE a) = (te.take k).map (shiftE a) ++ [(⟨(p : Int) + (a : Int), (r : Int) + (a : Int), xi, xo⟩ : E)] from hnx)
      have lbb : bb < wr.heap.size := by omega
      have hwr1 : IntKind.i64.wrap ((p : Int) + (a : Int)) = (p : Int) + a := by rw [IntKind.wrap_i64]; have := HN.out; omega
      have hwr2 : IntKind.i64.wrap ((r : Int) + (a : Int)) = (r : Int) + a := by rw [IntKind.wrap_i64]; have := HN.out; omega
      have HT3 := Lib.hid (HT2.out.alloc (boxE ⟨(p : Nat), (r : Nat), xi, xo⟩))
      have HB3 := Lib.hid (Below.alloc HB2.out hCw (boxE ⟨(p : Nat), (r : Nat), xi, xo⟩))
      have HLE := Lib.hid (show (es ++ (te.take k).map (shiftE a)).length ≤ 100000000 by rw [List.length_append, List.length_map, List.length_take]; omega)
      have HROW := Lib.hid (show ∀ b, (Value.slice an nn cn).ownBlock = some b → b < wr.heap.size from fun b hb => HT2.out.edg.lt hb)
      have hbx := heap_alloc_new wr (boxE ⟨(p : Nat), (r : Nat), xi, xo⟩)
      obtain ⟨t0, -⟩ := cell_of_block hbx 0
      obtain ⟨t1, -⟩ := cell_of_block hbx 1
      obtain ⟨t2, -⟩ := cell_of_block hbx 2
      obtain ⟨t3, -⟩ := cell_of_block hbx 3
      simp only [List.getElem?_toArray, List.getElem?_cons_zero, List.getElem?_cons_succ] at t0 t1 t2 t3
      have hN1 : wr.heap.size < (wr.alloc (boxE ⟨(p : Nat), (r : Nat), xi, xo⟩)).heap.size := by rw [size_alloc']; omega
      have hN2 : Z ≠ wr.heap.size := by have := HT2.out.lt; omega
      have hC1 : C ≤ (wr.alloc (boxE ⟨(p : Nat), (r : Nat), xi, xo⟩)).heap.size := by rw [size_alloc']; omega
      clear hbx hnx hT hbel
      go_upto_region 4 with fail
      clear d0 d1 d2 d3 l0 lbb x2 i0 i1 i2 i3 hCw hZw
      generalize hW1 : wr.alloc (.cells #[.int .i64 (p : Nat), .int .i64 (r : Nat), .string xi, .string xo] 50) = W1 at HT3 HB3 t0 t1 t2 t3 hN1 hC1 ⊢
      clear hW1
      generalize hN0 : wr.heap.size = N0 at HROW t0 t1 t2 t3 hN1 hN2 ⊢
      clear hN0 HT2 HB2
      have HTD := Lib.hid (HT3.out.below ((Below.refl _ _).drew))
      have HBD := Lib.hid (show Below C w W1.drew from Below.drew HB3.out)
      have HCD := Lib.hid (show C ≤ W1.drew.heap.size from hC1)
      have HSS := Lib.hid (show ∀ W : World, (∀ i, W.cell? ⟨N0, i, none⟩ = W1.cell? ⟨N0, i, none⟩) → (fun W : World => W.cell? ⟨N0, 0, none⟩ = some (.int .i64 (p : Nat)) ∧ W.cell? ⟨N0, 1, none⟩ = some (.int .i64 (r : Nat)) ∧ W.cell? ⟨N0, 2, none⟩ = some (.string xi) ∧ W.cell? ⟨N0, 3, none⟩ = some (.string xo)) W from fun W he => ⟨(he 0).trans t0, (he 1).trans t1, (he 2).trans t2, (he 3).trans t3⟩)
      have HSD := Lib.hid (HSS.out W1.drew (fun _ => rfl))
      have HSX := Lib.hid (HSS.out (W1.drew.alloc (boxE (⟨(p : Int) + (a : Int), (r : Int) + (a : Int), xi, xo⟩ : E))) (fun i => World.cell?_alloc_lt _ _ _ hN1))
      have HSG := Lib.hid (show ∀ v6 w6, PushedE W1.drew w6 C (.slice an nn cn) v6 (es ++ (te.take k).map (shiftE a)) (⟨(p : Int) + (a : Int), (r : Int) + (a : Int), xi, xo⟩ : E) → (fun W : World => W.cell? ⟨N0, 0, none⟩ = some (.int .i64 (p : Nat)) ∧ W.cell? ⟨N0, 1, none⟩ = some (.int .i64 (r : Nat)) ∧ W.cell? ⟨N0, 2, none⟩ = some (.string xi) ∧ W.cell? ⟨N0, 3, none⟩ = some (.string xo)) w6 from fun v6 w6 hp6 => by
        have e0 : w6.heap[N0]? = W1.drew.heap[N0]? := hp6.grow.block N0 hN1 (fun e => by have := HROW.out N0 e.symm; omega)
        exact HSS.out w6 (fun i => by unfold World.cell?; rw [e0]; rfl))
      have HSZ := Lib.hid (show ∀ (v6 : Value) (w6 : World), (fun W : World => W.cell? ⟨N0, 0, none⟩ = some (.int .i64 (p : Nat)) ∧ W.cell? ⟨N0, 1, none⟩ = some (.int .i64 (r : Nat)) ∧ W.cell? ⟨N0, 2, none⟩ = some (.string xi) ∧ W.cell? ⟨N0, 3, none⟩ = some (.string xo)) w6 → (fun W : World => W.cell? ⟨N0, 0, none⟩ = some (.int .i64 (p : Nat)) ∧ W.cell? ⟨N0, 1, none⟩ = some (.int .i64 (r : Nat)) ∧ W.cell? ⟨N0, 2, none⟩ = some (.string xi) ∧ W.cell? ⟨N0, 3, none⟩ = some (.string xo)) (w6.setCell ⟨Z, 2, none⟩ v6) from fun v6 w6 hS => by
        have he : ∀ i, (w6.setCell ⟨Z, 2, none⟩ v6).cell? ⟨N0, i, none⟩ = w6.cell? ⟨N0, i, none⟩ := fun i => by
          unfold World.cell?
          rw [Below.heap_setCell _ _ _ _ (fun e => hN2 e.symm)]
        exact ⟨(he 0).trans hS.1, (he 1).trans hS.2.1, (he 2).trans hS.2.2.1, (he 3).trans hS.2.2.2⟩)
      have b2 := (cell_of_block HTD.out.at_ 2).1
      simp at b2
      have b5 := (cell_of_block HTD.out.at_ 2).2
      have b6 : Z < W1.heap.size := HT3.out.lt
      have b8 : W1.cell? ⟨Z, 2, none⟩ = some (.slice an nn cn) := (cell_of_block HT3.out.at_ 2).1
      clear t0 t1 t2 t3
      refine wp_region_held_drew (S := (fun W : World => W.cell? ⟨N0, 0, none⟩ = some (.int .i64 (p : Nat)) ∧ W.cell? ⟨N0, 1, none⟩ = some (.int .i64 (r : Nat)) ∧ W.cell? ⟨N0, 2, none⟩ = some (.string xi) ∧ W.cell? ⟨N0, 3, none⟩ = some (.string xo))) (by kernel_rfl) ?hS (fun hHeld => ?hR)
      case hS => (first | exact HSD.out | exact HSX.out | exact HSW.out | exact HS6.out)
      refine wpAnyH_take (i := 0) (v := ?v1) rfl (by kernel_rfl) (by kernel_rfl) (by kernel_rfl) (fun _ _ _ h => h) (Or.inl ⟨by rfl, ?y1⟩) (by assumption) ?r1
      case y1 => (intro W hSw; (try dsimp only at hSw); go_simp; try with_reducible rfl)
      (try simp only [Act.put, List.setIfInBounds_toArray, List.set_cons_zero, List.set_cons_succ])
      refine wpAnyH_take (i := 1) (v := ?v2) rfl (by kernel_rfl) (by kernel_rfl) (by kernel_rfl) (fun _ _ _ h => h) (Or.inl ⟨by rfl, ?y2⟩) (by assumption) ?r2
      case y2 => (intro W hSw; (try dsimp only at hSw); go_simp; try with_reducible rfl)
      (try simp only [Act.put, List.setIfInBounds_toArray, List.set_cons_zero, List.set_cons_succ])
      refine wpAnyH_take (i := 2) (v := ?v3) rfl (by kernel_rfl) (by kernel_rfl) (by kernel_rfl) (fun _ _ _ h => h) (Or.inl ⟨by rfl, ?y3⟩) (by assumption) ?r3
      case y3 => (intro W hSw; (try dsimp only at hSw); go_simp; try with_reducible rfl)
      (try simp only [Act.put, List.setIfInBounds_toArray, List.set_cons_zero, List.set_cons_succ])
      refine wpAnyH_take (i := 3) (v := ?v4) rfl (by kernel_rfl) (by kernel_rfl) (by kernel_rfl) (fun _ _ _ h => h) (Or.inl ⟨by rfl, ?y4⟩) (by assumption) ?r4
      case y4 => (intro W hSw; (try dsimp only at hSw); go_simp; try with_reducible rfl)
      (try simp only [Act.put, List.setIfInBounds_toArray, List.set_cons_zero, List.set_cons_succ])
      refine wpAnyH_take (i := 5) (v := ?v5) rfl (by kernel_rfl) (by kernel_rfl) (by kernel_rfl) (fun _ _ _ h => h) (Or.inl ⟨by rfl, ?y5⟩) (by assumption) ?r5
      case y5 => (intro W hSw; (try dsimp only at hSw); go_simp; try with_reducible rfl)
      (try simp only [Act.put, List.setIfInBounds_toArray, List.set_cons_zero, List.set_cons_succ])
      refine wpAnyH_take (i := 6) (v := ?v6) rfl (by kernel_rfl) (by kernel_rfl) (by kernel_rfl) (fun _ _ _ h => h) (Or.inl ⟨by rfl, ?y6⟩) (by assumption) ?r6
      case y6 => (intro W hSw; (try dsimp only at hSw); go_simp; try with_reducible rfl)
      (try simp only [Act.put, List.setIfInBounds_toArray, List.set_cons_zero, List.set_cons_succ])
      refine wpAnyH_take (i := 7) (v := ?v7) rfl (by kernel_rfl) (by kernel_rfl) (by kernel_rfl) (fun _ _ _ h => h) (Or.inl ⟨by rfl, ?y7⟩) (by assumption) ?r7
      case y7 => (intro W hSw; (try dsimp only at hSw); go_simp; try with_reducible rfl)
      (try simp only [Act.put, List.setIfInBounds_toArray, List.set_cons_zero, List.set_cons_succ])
      refine wpAnyH_take (i := 8) (v := ?v8) rfl (by kernel_rfl) (by kernel_rfl) (by kernel_rfl) (fun _ _ _ h => h) (Or.inl ⟨by rfl, ?y8⟩) (by assumption) ?r8
      case y8 => (intro W hSw; (try dsimp only at hSw); go_simp; try with_reducible rfl)
      (try simp only [Act.put, List.setIfInBounds_toArray, List.set_cons_zero, List.set_cons_succ])
      refine wpAnyH_take (i := 9) (v := ?v9) rfl (by kernel_rfl) (by kernel_rfl) (by kernel_rfl) (fun _ _ _ h => h) (Or.inl ⟨by rfl, ?y9⟩) (by assumption) ?r9
      case y9 => (intro W hSw; (try dsimp only at hSw); go_simp; try with_reducible rfl)
      (try simp only [Act.put, List.setIfInBounds_toArray, List.set_cons_zero, List.set_cons_succ])
      refine wpAnyH_take (i := 10) (v := ?v10) rfl (by kernel_rfl) (by kernel_rfl) (by kernel_rfl) (fun _ _ _ h => h) (Or.inl ⟨by rfl, ?y10⟩) (by assumption) ?r10
      case y10 => (intro W hSw; (try dsimp only at hSw); go_simp; try with_reducible rfl)
      (try simp only [Act.put, List.setIfInBounds_toArray, List.set_cons_zero, List.set_cons_succ])
      refine wpAnyH_take (i := 11) (v := ?v11) rfl (by kernel_rfl) (by kernel_rfl) (by kernel_rfl) (fun _ _ _ h => h) (Or.inl ⟨by rfl, ?y11⟩) (by assumption) ?r11
      case y11 => (intro W hSw; (try dsimp only at hSw); go_simp; try with_reducible rfl)
      (try simp only [Act.put, List.setIfInBounds_toArray, List.set_cons_zero, List.set_cons_succ])
      refine wpAnyH_take (i := 12) (v := ?v12) rfl (by kernel_rfl) (by kernel_rfl) (by kernel_rfl) (fun _ _ _ h => h) (Or.inl ⟨by rfl, ?y12⟩) (by assumption) ?r12
      case y12 => (intro W hSw; (try dsimp only at hSw); go_simp; try with_reducible rfl)
      (try simp only [Act.put, List.setIfInBounds_toArray, List.set_cons_zero, List.set_cons_succ])
      refine wpAnyH_take (i := 13) (v := ?v13) rfl (by kernel_rfl) (by kernel_rfl) (by kernel_rfl) (fun _ _ _ h => h) (Or.inl ⟨by rfl, ?y13⟩) (by assumption) ?r13
      case y13 => (intro W hSw; (try dsimp only at hSw); go_simp; try with_reducible rfl)
      (try simp only [Act.put, List.setIfInBounds_toArray, List.set_cons_zero, List.set_cons_succ])
      refine wpAnyH_take (i := 14) (v := ?v14) rfl (by kernel_rfl) (by kernel_rfl) (by kernel_rfl) (fun _ _ _ h => h) (Or.inl ⟨by rfl, ?y14⟩) (by assumption) ?r14
      case y14 => (intro W hSw; (try dsimp only at hSw); go_simp; try with_reducible rfl)
      (try simp only [Act.put, List.setIfInBounds_toArray, List.set_cons_zero, List.set_cons_succ])
      refine wpAnyH_take (i := 15) (v := ?v15) rfl (by kernel_rfl) (by kernel_rfl) (by kernel_rfl) (fun _ _ _ h => h) (Or.inl ⟨by rfl, ?y15⟩) (by assumption) ?r15
      case y15 => (intro W hSw; (try dsimp only at hSw); go_simp; try with_reducible rfl)
      (try simp only [Act.put, List.setIfInBounds_toArray, List.set_cons_zero, List.set_cons_succ])
      refine wpAnyH_take (i := 16) (v := ?v16) rfl (by kernel_rfl) (by kernel_rfl) (by kernel_rfl) (fun _ _ _ h => h) (Or.inl ⟨by rfl, ?y16⟩) (by assumption) ?r16
      case y16 => (intro W hSw; (try dsimp only at hSw); go_simp; try with_reducible rfl)
      (try simp only [Act.put, List.setIfInBounds_toArray, List.set_cons_zero, List.set_cons_succ])
      refine wpAnyH_take (i := 17) (v := ?v17) rfl (by kernel_rfl) (by kernel_rfl) (by kernel_rfl) (fun _ _ _ h => h) (Or.inl ⟨by rfl, ?y17⟩) (by assumption) ?r17
      case y17 => (intro W hSw; (try dsimp only at hSw); go_simp; try with_reducible rfl)
      (try simp only [Act.put, List.setIfInBounds_toArray, List.set_cons_zero, List.set_cons_succ])
      refine wpAnyH_ready (rs := [4, 18]) (by kernel_rfl) (by simp) ?_
      refine AllReadyH.cons rfl (fun K hK => ?_) (AllReadyH.cons rfl (fun K hK => ?_) AllReadyH.nil)
      · go_simp
        refine hK.out _ _ (by (first | exact HSD.out | exact HSX.out | exact HSW.out | exact HS6.out)) (fun hHeld => ?_)
        clear hK K
        (try simp only [Act.put, List.setIfInBounds_toArray, List.set_cons_zero, List.set_cons_succ])
        refine wpAnyH_ready (rs := [18]) (by kernel_rfl) (by simp) ?_
        refine AllReadyH.cons rfl (fun K hK => ?_) AllReadyH.nil
        · go_simp
          refine hK.out _ _ (by (first | exact HSD.out | exact HSX.out | exact HSW.out | exact HS6.out)) (fun hHeld => ?_)
          clear hK K
          (try simp only [Act.put, List.setIfInBounds_toArray, List.set_cons_zero, List.set_cons_succ])
          refine wpAnyH_ready (rs := [19]) (by kernel_rfl) (by simp) ?_
          refine AllReadyH.cons rfl (fun K hK => ?_) AllReadyH.nil
          · (refine step_pushE (by rfl) _ _ (by rfl) C (.slice an nn cn) _ (⟨(p : Int) + (a : Int), (r : Int) + (a : Int), xi, xo⟩ : E) HTD.out.edg HCD.out HLE.out (by rfl) _ (by rfl) (by rfl) ?_; intro v6 w6 hp6; obtain ⟨a6, n6, c6, rfl, -⟩ := hp6.lst.shape'; have ob6 := HTD.out.obE hp6; have u2 := (cell_of_block ob6 2).1; have u5 := (cell_of_block ob6 2).2; have u6 := lt_of_block ob6; simp at u2; have HSW := Lib.hid (HSG.out _ _ hp6); have HT6 := Lib.hid (HTD.out.push hp6); have HB6 := Lib.hid (Below.setCell (below_pushE HBD.out HTD.out.edg hp6 HCD.out) (p := ⟨Z, 2, none⟩) HTD.out.obB (.slice a6 n6 c6)); have HS6 := Lib.hid (HSZ.out (.slice a6 n6 c6) _ HSW.out); clear hp6 ob6)
            refine hK.out _ _ (by (first | exact HSD.out | exact HSX.out | exact HSW.out | exact HS6.out)) (fun hHeld => ?_)
            clear hK K
            (try simp only [Act.put, List.setIfInBounds_toArray, List.set_cons_zero, List.set_cons_succ])
            refine wpAnyH_take (i := 20) (v := ?v18) rfl (by kernel_rfl) (by kernel_rfl) (by kernel_rfl) (fun _ _ _ h => h) (Or.inl ⟨by rfl, ?y18⟩) (by assumption) ?r18
            case y18 => (intro W hSw; (try dsimp only at hSw); go_simp; try with_reducible rfl)
            (try simp only [Act.put, List.setIfInBounds_toArray, List.set_cons_zero, List.set_cons_succ])
            refine wpAnyH_take (i := 21) (v := ?v19) rfl (by kernel_rfl) (by kernel_rfl) (by kernel_rfl) (fun _ _ _ h => h) (Or.inl ⟨by rfl, ?y19⟩) (by assumption) ?r19
            case y19 => (intro W hSw; (try dsimp only at hSw); go_simp; try with_reducible rfl)
            (try simp only [Act.put, List.setIfInBounds_toArray, List.set_cons_zero, List.set_cons_succ])
            refine wpAnyH_ready (rs := [22]) (by kernel_rfl) (by simp) ?_
            refine AllReadyH.cons rfl (fun K hK => ?_) AllReadyH.nil
            · go_simp
              refine hK.out _ _ (by (first | exact HSD.out | exact HSX.out | exact HSW.out | exact HS6.out)) (fun hHeld => ?_)
              clear hK K
              (try simp only [Act.put, List.setIfInBounds_toArray, List.set_cons_zero, List.set_cons_succ])
              refine wpAnyH_done (by kernel_rfl) ?_ _
              go_wp2_with fail
              go_roundw
              case rel => exact ⟨k + 1, _, by omega, by go_num, by rw [HEE.out, ← List.append_assoc]; exact HT6.out, HB6.out⟩
              case measure => simp [intOf]; omega
      · go_simp
        refine hK.out _ _ (by (first | exact HSD.out | exact HSX.out | exact HSW.out | exact HS6.out)) (fun hHeld => ?_)
        clear hK K
        (try simp only [Act.put, List.setIfInBounds_toArray, List.set_cons_zero, List.set_cons_succ])
        refine wpAnyH_ready (rs := [4]) (by kernel_rfl) (by simp) ?_
        refine AllReadyH.cons rfl (fun K hK => ?_) AllReadyH.nil
        · go_simp
          refine hK.out _ _ (by (first | exact HSD.out | exact HSX.out | exact HSW.out | exact HS6.out)) (fun hHeld => ?_)
          clear hK K
          (try simp only [Act.put, List.setIfInBounds_toArray, List.set_cons_zero, List.set_cons_succ])
          refine wpAnyH_ready (rs := [19]) (by kernel_rfl) (by simp) ?_
          refine AllReadyH.cons rfl (fun K hK => ?_) AllReadyH.nil
          · (refine step_pushE (by rfl) _ _ (by rfl) C (.slice an nn cn) _ (⟨(p : Int) + (a : Int), (r : Int) + (a : Int), xi, xo⟩ : E) HTD.out.edg HCD.out HLE.out (by rfl) _ (by rfl) (by rfl) ?_; intro v6 w6 hp6; obtain ⟨a6, n6, c6, rfl, -⟩ := hp6.lst.shape'; have ob6 := HTD.out.obE hp6; have u2 := (cell_of_block ob6 2).1; have u5 := (cell_of_block ob6 2).2; have u6 := lt_of_block ob6; simp at u2; have HSW := Lib.hid (HSG.out _ _ hp6); have HT6 := Lib.hid (HTD.out.push hp6); have HB6 := Lib.hid (Below.setCell (below_pushE HBD.out HTD.out.edg hp6 HCD.out) (p := ⟨Z, 2, none⟩) HTD.out.obB (.slice a6 n6 c6)); have HS6 := Lib.hid (HSZ.out (.slice a6 n6 c6) _ HSW.out); clear hp6 ob6)
            refine hK.out _ _ (by (first | exact HSD.out | exact HSX.out | exact HSW.out | exact HS6.out)) (fun hHeld => ?_)
            clear hK K
            (try simp only [Act.put, List.setIfInBounds_toArray, List.set_cons_zero, List.set_cons_succ])
            refine wpAnyH_take (i := 20) (v := ?v20) rfl (by kernel_rfl) (by kernel_rfl) (by kernel_rfl) (fun _ _ _ h => h) (Or.inl ⟨by rfl, ?y20⟩) (by assumption) ?r20
            case y20 => (intro W hSw; (try dsimp only at hSw); go_simp; try with_reducible rfl)
            (try simp only [Act.put, List.setIfInBounds_toArray, List.set_cons_zero, List.set_cons_succ])
            refine wpAnyH_take (i := 21) (v := ?v21) rfl (by kernel_rfl) (by kernel_rfl) (by kernel_rfl) (fun _ _ _ h => h) (Or.inl ⟨by rfl, ?y21⟩) (by assumption) ?r21
            case y21 => (intro W hSw; (try dsimp only at hSw); go_simp; try with_reducible rfl)
            (try simp only [Act.put, List.setIfInBounds_toArray, List.set_cons_zero, List.set_cons_succ])
            refine wpAnyH_ready (rs := [22]) (by kernel_rfl) (by simp) ?_
            refine AllReadyH.cons rfl (fun K hK => ?_) AllReadyH.nil
            · go_simp
              refine hK.out _ _ (by (first | exact HSD.out | exact HSX.out | exact HSW.out | exact HS6.out)) (fun hHeld => ?_)
              clear hK K
              (try simp only [Act.put, List.setIfInBounds_toArray, List.set_cons_zero, List.set_cons_succ])
              refine wpAnyH_done (by kernel_rfl) ?_ _
              go_wp2_with fail
              go_roundw
              case rel => exact ⟨k + 1, _, by omega, by go_num, by rw [HEE.out, ← List.append_assoc]; exact HT6.out, HB6.out⟩
              case measure => simp [intOf]; omega
    · obtain rfl : k = q := by omega
      have HALL := Lib.hid (show te.take k = te by rw [List.take_of_length_le (by rw [← HQ.out]; exact Nat.le_refl _)])
      clear hT hbel hlt hk
      go_wp2
      go_end0
      exact ⟨rfl, _, by have := HT2.out; rwa [HALL.out] at this, HB2.out⟩
end Go.Proofs.Ytjoiaenkmmmmpaa.AddSpec
