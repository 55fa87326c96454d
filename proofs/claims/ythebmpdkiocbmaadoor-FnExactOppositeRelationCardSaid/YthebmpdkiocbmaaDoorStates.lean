
/- Lists of states that a function meets by their classes; what the program's function that meets a state does.
   Conditions: stated at each theorem. -/
import Derived.Test.YthebmpdkiocbmaaDoorPlaces
import Derived.Test.YthebmpdkiocbmaaDoorImplClasses
import Derived.Test.YthebmpdkiocbmaaDoorTidyNum
import Derived.Deep.QuietTactic
import Derived.BigQuiet
import Derived.Deep.DeepCutAuto
namespace Go.Proofs.YthebmpdkiocbmaaDoor.States
set_option linter.unusedVariables false
set_option maxRecDepth 20000
set_option linter.unusedSimpArgs false
open Go.RowKit Mem Copy Rel Heap Bld TidyMath TidyClass TidyAuto TidyNum Places ImplClasses MarkRow

def numT (κ : Nat → Nat) (P : List Nat) (q : Nat) : Int := numC κ P q + 1
theorem numT_nil (κ : Nat → Nat) (q : Nat) : numT κ [] q = 0 := by unfold numT; rw [numC_none]; rfl
theorem numT_at (κ : Nat → Nat) (P : List Nat) (x : Nat) : numT κ P (κ x) = if idx κ P x < P.length then ((idx κ P x + 1 : Nat) : Int) else 0 := by
  unfold numT; rw [numC_at]; split <;> simp
theorem numT_meet {κ : Nat → Nat} {P : List Nat} {x : Nat} (hn : ¬ idx κ P x < P.length) (q : Nat) : numT κ (P ++ [x]) q = if q = κ x then ((P.length : Int) + 1) else numT κ P q := by
  have hm : TidyMath.meet κ P x = P ++ [x] := by unfold TidyMath.meet; rw [if_neg hn]
  unfold numT
  rw [← hm, numC_meet hn]; split <;> rfl

/-- What has been met, in memory: a variable with the table, one with the classes, one with the list; and other lists beside. -/
structure MS (w : World) (B Bc b9 bc b10 g n m : Nat) (vC vS : Value) (κ : Nat → Nat) (P : List Nat) (others : List (Value × List Value)) : Prop where
  box9 : w.heap[b9]? = some (.cells #[.slice (some ⟨g, 0, none⟩) n n] 34 (0, 0))
  boxC : w.heap[bc]? = some (.cells #[vC] 138 (0, 0))
  box10 : w.heap[b10]? = some (.cells #[vS] 34 (0, 0))
  own : Own w B 2 ((.slice (some ⟨g, 0, none⟩) n n, tv n (numT κ P)) :: (vS, iv P) :: others)
  cls : Lst w Bc 21 vC (tw m κ)
  b10B : B ≤ b10
  b9n : b9 ≠ b10

theorem MS.drewN {w : World} {B Bc b9 bc b10 g n m : Nat} {vC vS : Value} {κ : Nat → Nat} {P : List Nat} {others : List (Value × List Value)} (h : MS w B Bc b9 bc b10 g n m vC vS κ P others) (q : Nat) : MS (w.drewN q) B Bc b9 bc b10 g n m vC vS κ P others :=
  ⟨h.box9, h.boxC, h.box10, h.own.drewN q, h.cls, h.b10B, h.b9n⟩
theorem MS.below {w w' : World} {B Bc b9 bc b10 g n m : Nat} {vC vS : Value} {κ : Nat → Nat} {P : List Nat} {others : List (Value × List Value)} (h : MS w B Bc b9 bc b10 g n m vC vS κ P others) (hb : Below w.heap.size w w') : MS w' B Bc b9 bc b10 g n m vC vS κ P others :=
  ⟨by rw [hb.block _ (lt_of_block h.box9)]; exact h.box9, by rw [hb.block _ (lt_of_block h.boxC)]; exact h.boxC, by rw [hb.block _ (lt_of_block h.box10)]; exact h.box10, h.own.below hb, h.cls.below hb, h.b10B, h.b9n⟩

structure MSStep (w w5 w6 : World) (B Bc b9 bc b10 g n m : Nat) (vC vS v5 : Value) (κ : Nat → Nat) (P : List Nat) (others : List (Value × List Value)) (x : Nat) : Prop where
  box : w5.heap[b10]? = some (.cells #[vS] 34 (0, 0))
  cell : w5.cell? ⟨g, κ x, none⟩ = some (.int .i64 0)
  free : w5.frozen? ⟨g, κ x, none⟩ = false
  ms : MS w6 B Bc b9 bc b10 g n m vC v5 κ (P ++ [x]) others
  frame : MetFrame w w6 b10 g vS v5

theorem MS.new {w w5 : World} {B Bc b9 bc b10 g n m : Nat} {vC vS v5 : Value} {κ : Nat → Nat} {P : List Nat} {others : List (Value × List Value)} {x : Nat} (h : MS w B Bc b9 bc b10 g n m vC vS κ P others) (hx : κ x < n) (hidx : ¬ idx κ P x < P.length)
    (hp : Pushed w w5 B 2 vS v5 (iv P) (.int .i64 (x : Nat))) : MSStep w w5 ((w5.setCell ⟨b10, 0, none⟩ v5).setCell ⟨g, κ x, none⟩ (.int .i64 ((P.length : Int) + 1))) B Bc b9 bc b10 g n m vC vS v5 κ P others x := by
  have hnum := Own.get [] _ h.own
  have hst := Own.get [_] _ h.own
  have h10g : b10 ≠ g := fun e => block_apart hnum h.box10 (by decide) (by rw [e]; rfl)
  have h9g : b9 ≠ g := fun e => block_apart hnum h.box9 (by decide) (by rw [e]; rfl)
  have hcg : bc ≠ g := fun e => block_apart hnum h.boxC (by decide) (by rw [e]; rfl)
  have hs10 : vS.ownBlock ≠ some b10 := block_apart hst h.box10 (by decide)
  have hs9 : vS.ownBlock ≠ some b9 := block_apart hst h.box9 (by decide)
  have hsc : vS.ownBlock ≠ some bc := block_apart hst h.boxC (by decide)
  have hc10 : bc ≠ b10 := fun e => by have h1 := h.boxC; rw [e, h.box10] at h1; cases h1
  have hk : ∀ k, k < w.heap.size → vS.ownBlock ≠ some k → w5.heap[k]? = w.heap[k]? := fun k h1 h2 => hp.grow.block k h1 (fun e => h2 e.symm)
  have l10 := lt_of_block h.box10
  have b10' := (hk b10 l10 hs10).trans h.box10
  have o5 := Own.push [_] others h.own hp
  have c5 := Own.get [] _ o5
  have g1 : (w5.setCell ⟨b10, 0, none⟩ v5).heap[b10]? = some (.cells #[v5] 34 (0, 0)) := cells_set b10' 0 v5
  have o6 := o5.setOther (a := ⟨b10, 0, none⟩) b10' (by decide) v5
  have o7 := Own.set [] _ (i := κ x) o6 (by rw [tv_length]; exact hx) (.int .i64 ((P.length : Int) + 1))
  rw [tv_set, tv_congr (S := numT κ (P ++ [x])) (fun i _ => (numT_meet hidx i).symm), iv_push] at o7
  have hcell := c5.cellOf (i := κ x) (by rw [tv_length]; exact hx)
  rw [tv_get, numT_at, if_neg hidx] at hcell
  have hw : ∀ k, k < w.heap.size → k ≠ b10 → k ≠ g → vS.ownBlock ≠ some k → ((w5.setCell ⟨b10, 0, none⟩ v5).setCell ⟨g, κ x, none⟩ (.int .i64 ((P.length : Int) + 1))).heap[k]? = w.heap[k]? := fun k h1 h2 h3 h4 => by
    rw [Below.heap_setCell _ _ _ _ h3, Below.heap_setCell _ _ _ _ h2, hk k h1 h4]
  refine ⟨b10', hcell, c5.free _, ⟨?_, ?_, ?_, ?_, ?_, h.b10B, h.b9n⟩, ⟨?_, ?_, ?_, ?_, hw, ?_⟩⟩
  · rw [hw b9 (lt_of_block h.box9) h.b9n h9g hs9]; exact h.box9
  · rw [hw bc (lt_of_block h.boxC) hc10 hcg hsc]; exact h.boxC
  · rw [Below.heap_setCell _ _ _ _ h10g]; exact g1
  · exact o7
  · exact h.cls.of_block fun k hk' => hw k (h.cls.lt hk') (fun e => block_apart h.cls h.box10 (by decide) (by rw [← e]; exact hk')) (fun e => Lst.apart hnum h.cls (by decide) g rfl (by rw [← e]; exact hk')) (fun e => Lst.apart hst h.cls (by decide) k e hk')
  · exact hp.grow.os
  · exact hp.grow.tape
  · exact hp.grow.output
  · have := hp.grow.size; simp only [World.setCell, Array.size_modify] at *; omega
  · rcases hp.at_ with e | ⟨q, e, hq⟩
    · exact .inl e
    · exact .inr ⟨q, e, hq⟩

theorem MetFrame.refl (w : World) (b5 g : Nat) (v : Value) : MetFrame w w b5 g v v := ⟨rfl, rfl, rfl, Nat.le_refl _, fun _ _ _ _ _ => rfl, .inl rfl⟩

set_option maxHeartbeats 4000000 in
theorem meetS (x : Nat) (w : World) (B Bc b9 bc b10 g n m : Nat) (vC vS : Value) (κ : Nat → Nat) (P : List Nat) (others : List (Value × List Value)) (h : MS w B Bc b9 bc b10 g n m vC vS κ P others) (hB : B ≤ w.heap.size) (hx : x < m) (hκ : κ x < n) (hn : n ≤ 10000000) (hm : m ≤ 10000000) (hP : P.length ≤ 10000000) :
    Calls Tryd.prog 113 #[.int .i64 x, .pointer (some ⟨b9, 0, none⟩), .pointer (some ⟨bc, 0, none⟩), .pointer (some ⟨b10, 0, none⟩)] w fun e w' =>
      ∃ vS', e = .returned (.int .i64 ((idx κ P x : Nat) : Int)) ∧ MS w' B Bc b9 bc b10 g n m vC vS' κ (TidyMath.meet κ P x) others ∧ MetFrame w w' b10 g vS vS' := by
  have HM := Lib.hid h
  have HB := Lib.hid hB
  have c9 := cells_get h.box9 0
  have cc := cells_get h.boxC 0
  simp at c9 cc
  have l9 := lt_of_block h.box9
  have lc := lt_of_block h.boxC
  obtain ⟨ac, nc, cpc, rfl, HNC⟩ := h.cls.shape'
  have hnc : nc = m := by rw [HNC.out, tw_length]
  subst hnc
  obtain ⟨gc, rfl, hgc⟩ := h.cls.addr (by rw [tw_length]; omega)
  have cx := h.cls.cellOf (i := x) (by rw [tw_length]; exact hx)
  rw [tw_get] at cx
  obtain ⟨y, hy⟩ : ∃ y, y = κ x := ⟨_, rfl⟩
  rw [← hy] at cx hκ
  have HY := Lib.hid hy
  clear h HNC hB hy
  go_enter Tryd.func113, Tryd.ntmps113
  go_upto_region 1 with fail
  go_cut [6] (fun v wx => v = .pointer (some ⟨g, y, none⟩) ∧ ∃ q, wx = w.drewN q)
  case first =>
    go_quiet (fail)
    go_wp2_with fail
    go_meet
    exact ⟨rfl, _, rfl⟩
  case rest =>
    obtain ⟨rfl, q, rfl⟩ := hcut
    have HF := Lib.hid (fun (w6 : World) (v6 : Value) (hf : MetFrame (w.drewN q) w6 b10 g vS v6) => (show MetFrame w w6 b10 g vS v6 from ⟨hf.os, hf.tape, hf.output, hf.size, hf.block, hf.at_⟩))
    have hM1 := HM.out.drewN q
    have hB1 : B ≤ (w.drewN q).heap.size := HB.out
    generalize w.drewN q = wq at hM1 hB1 HF ⊢
    have HM1 := Lib.hid hM1
    have HB1 := Lib.hid hB1
    have c10 := cells_get hM1.box10 0
    simp at c10
    have l10 := lt_of_block hM1.box10
    have f10 := cells_free hM1.box10 0
    have cN := (Own.get [] _ hM1.own).cellOf (i := y) (by rw [tv_length]; exact hκ)
    rw [tv_get, HY.out, numT_at, ← HY.out] at cN
    have lN := World.block_lt_of_cell? _ _ cN
    have fN := (Own.get [] _ hM1.own).free y
    obtain ⟨d, hd⟩ : ∃ d, d = idx κ P x := ⟨_, rfl⟩
    have HD := Lib.hid hd
    rw [← hd] at cN
    have hdP := idx_le κ P x
    rw [← hd] at hdP
    obtain ⟨aS, ns, cps, rfl, HNS⟩ := (Own.get [_] _ hM1.own).shape'
    have hns : ns = P.length := by rw [HNS.out, iv_length]
    subst hns
    clear hM1 hB1 hd c9 cc l9 lc cx
    by_cases hlt : d < P.length
    · rw [if_pos hlt] at cN
      have HMM := Lib.hid (show TidyMath.meet κ P x = P by unfold TidyMath.meet; rw [if_pos (by rw [← HD.out]; exact hlt)])
      have hz : (((d + 1 : Nat) : Int) == 0) = false := by simp; omega
      obtain ⟨z, hzz⟩ : ∃ z, z = d + 1 := ⟨_, rfl⟩
      have HZ := Lib.hid hzz
      rw [← hzz] at cN hz
      clear hzz
      have hz1 : 1 ≤ z := by have := HZ.out; omega
      have hz2 : z ≤ 10000001 := by have := HZ.out; omega
      go_wp2_with fail
      go_ret
      exact ⟨by rw [HZ.out, ← HD.out]; simp, _, by rw [HMM.out]; exact HM1.out, HF.out _ _ (MetFrame.refl _ _ _ _)⟩
    · rw [if_neg hlt] at cN
      have HDE := Lib.hid (show d = P.length by omega)
      have HMM := Lib.hid (show TidyMath.meet κ P x = P ++ [x] by unfold TidyMath.meet; rw [if_neg (by rw [← HD.out]; exact hlt)])
      have h5g : b10 ≠ g := fun e => block_apart (Own.get [] _ HM1.out.own) HM1.out.box10 (by decide) (by rw [e]; rfl)
      have h5g' : g ≠ b10 := Ne.symm h5g
      have HNW := Lib.hid (fun w5 v5 hp => HM1.out.new (w5 := w5) (v5 := v5) (x := x) (by rw [← HY.out]; exact hκ) (by rw [← HD.out]; exact hlt) hp)
      rw [← HY.out] at HNW
      have HLL := Lib.hid (show (iv P).length ≤ 100000000 by rw [iv_length]; omega)
      go_wp2_with (at_builtin; go_loud (refine wpList_push rfl _ _ 34 rfl 2 (.int .i64 0) 8 Tryd.underlying34 info2 (by decide) (by decide) B (.slice aS P.length cps) (iv P) (.int .i64 (x : Nat)) (Own.get [_] _ HM1.out.own) HB1.out rfl HLL.out rfl _ rfl rfl ?_; intro v5 w5 hp5; have HS := Lib.hid (HNW.out _ _ hp5); obtain ⟨a5, n5, cp5, rfl, HN5⟩ := hp5.lst.shape'; have hn5 := (show n5 = P.length + 1 by rw [HN5.out, List.length_append, iv_length]; rfl); subst hn5; have q5 := cells_get HS.out.box 0; have z5 := cells_free HS.out.box 0; have l5 := lt_of_block HS.out.box; have c6 := HS.out.cell; have f6 := HS.out.free; rw [← HY.out] at c6 f6; have l6 := World.block_lt_of_cell? _ _ c6; simp at q5; clear hp5))
      go_ret
      exact ⟨by rw [← HD.out, HDE.out]; simp, _, by rw [HMM.out]; exact HS.out.ms, HF.out _ _ HS.out.frame⟩
end Go.Proofs.YthebmpdkiocbmaaDoor.States
