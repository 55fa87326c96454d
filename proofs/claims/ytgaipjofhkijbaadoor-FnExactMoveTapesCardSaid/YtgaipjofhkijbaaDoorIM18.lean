
/- Lists of states that a function meets by their classes; what the program's function that meets a state does.
   Conditions: stated at each theorem. -/
import Derived.Test.YtgaipjofhkijbaaDoorIM16
import Derived.Test.YtgaipjofhkijbaaDoorIM17
import Derived.Test.YtgaipjofhkijbaaDoorIM2
import Derived.Deep.QuietTactic
import Derived.BigQuiet
import Derived.Deep.DeepCutAuto
import Derived.Test.YtgaipjofhkijbaaDoorIM9
import Derived.Test.YtgaipjofhkijbaaDoorIM4
import Derived.Deep.RegionWith
namespace Go.Proofs.YtgaipjofhkijbaaDoor.States
set_option linter.unusedVariables false
set_option maxRecDepth 20000
set_option linter.unusedSimpArgs false
open Go.RowKit Mem Copy Rel Heap Bld TidyMath TidyClass TidyAuto TidyNum Places ImplClasses MarkRow

def numT (κ : Nat → Nat) (P : List Nat) (q : Nat) : Int := numC κ P q + 1
theorem numT_nil (κ : Nat → Nat) (q : Nat) : numT κ [] q = 0 := by unfold numT; rw [numC_none]; rfl
theorem numT_at (κ : Nat → Nat) (P : List Nat) (x : Nat) : numT κ P (κ x) = if idx κ P x < P.length then ((idx κ P x + 1 : Nat) : Int) else 0 := by
  unfold numT; rw [numC_at]; split <;> simp
theorem numT_meet {κ : Nat → Nat} {P : List Nat} {x : Nat} (hn : ¬ idx κ P x < P.length) (q : Nat) : numT κ (P ++ [x]) q = if q = κ x then ((P.length : Int) + 1) else numT κ P q := by
  have hm : TidyMath.meet κ P x = P ++ [x] := by unfold TidyMath.meet; rw [if_neg hn]
  unfold numT
  rw [← hm, numC_meet hn]; split <;> rfl

/-- What has been met, in memory: a variable with the table, one with the classes, one with the list; and other lists beside. -/
structure MS (w : World) (B Bc b9 bc b10 g n m : Nat) (vC vS : Value) (κ : Nat → Nat) (P : List Nat) (others : List (Value × List Value)) : Prop where
  box9 : w.heap[b9]? = some (.cells #[.slice (some ⟨g, 0, none⟩) n n] 34 (0, 0))
  boxC : w.heap[bc]? = some (.cells #[vC] 122 (0, 0))
  box10 : w.heap[b10]? = some (.cells #[vS] 34 (0, 0))
  own : Own w B 2 ((.slice (some ⟨g, 0, none⟩) n n, tv n (numT κ P)) :: (vS, iv P) :: others)
  cls : Lst w Bc 21 vC (tw m κ)
  b10B : B ≤ b10
  b9n : b9 ≠ b10

theorem MS.drewN {w : World} {B Bc b9 bc b10 g n m : Nat} {vC vS : Value} {κ : Nat → Nat} {P : List Nat} {others : List (Value × List Value)} (h : MS w B Bc b9 bc b10 g n m vC vS κ P others) (q : Nat) : MS (w.drewN q) B Bc b9 bc b10 g n m vC vS κ P others :=
  ⟨h.box9, h.boxC, h.box10, h.own.drewN q, h.cls, h.b10B, h.b9n⟩
theorem MS.below {w w' : World} {B Bc b9 bc b10 g n m : Nat} {vC vS : Value} {κ : Nat → Nat} {P : List Nat} {others : List (Value × List Value)} (h : MS w B Bc b9 bc b10 g n m vC vS κ P others) (hb : Below w.heap.size w w') : MS w' B Bc b9 bc b10 g n m vC vS κ P others :=
  ⟨by rw [hb.block _ (lt_of_block h.box9)]; exact h.box9, by rw [hb.block _ (lt_of_block h.boxC)]; exact h.boxC, by rw [hb.block _ (lt_of_block h.box10)]; exact h.box10, h.own.below hb, h.cls.below hb, h.b10B, h.b9n⟩

structure MSStep (w w5 w6 : World) (B Bc b9 bc b10 g n m : Nat) (vC vS v5 : Value) (κ : Nat → Nat) (P : List Nat) (others : List (Value × List Value)) (x : Nat) : Prop where
  box : w5.heap[b10]? = some (.cells #[vS] 34 (0, 0))
  cell : w5.cell? ⟨g, κ x, none⟩ = some (.int .i64 0)
  free : w5.frozen? ⟨g, κ x, none⟩ = false
  ms : MS w6 B Bc b9 bc b10 g n m vC v5 κ (P ++ [x]) others
  frame : MetFrame w w6 b10 g vS v5

theorem MS.new {w w5 : World} {B Bc b9 bc b10 g n m : Nat} {vC vS v5 : Value} {κ : Nat → Nat} {P : List Nat} {others : List (Value × List Value)} {x : Nat} (h : MS w B Bc b9 bc b10 g n m vC vS κ P others) (hx : κ x < n) (hidx : ¬ idx κ P x < P.length)
    (hp : Pushed w w5 B 2 vS v5 (iv P) (.int .i64 (x : Nat))) : MSStep w w5 ((w5.setCell ⟨b10, 0, none⟩ v5).setCell ⟨g, κ x, none⟩ (.int .i64 ((P.length : Int) + 1))) B Bc b9 bc b10 g n m vC vS v5 κ P others x := by
  have hnum := Own.get [] _ h.own
  have hst := Own.get [_] _ h.own
  have h10g : b10 ≠ g := fun e => block_apart hnum h.box10 (by decide) (by rw [e]; rfl)
  have h9g : b9 ≠ g := fun e => block_apart hnum h.box9 (by decide) (by rw [e]; rfl)
  have hcg : bc ≠ g := fun e => block_apart hnum h.boxC (by decide) (by rw [e]; rfl)
  have hs10 : vS.ownBlock ≠ some b10 := block_apart hst h.box10 (by decide)
  have hs9 : vS.ownBlock ≠ some b9 := block_apart hst h.box9 (by decide)
  have hsc : vS.ownBlock ≠ some bc := block_apart hst h.boxC (by decide)
  have hc10 : bc ≠ b10 := fun e => by have h1 := h.boxC; rw [e, h.box10] at h1; cases h1
  have hk : ∀ k, k < w.heap.size → vS.ownBlock ≠ some k → w5.heap[k]? = w.heap[k]? := fun k h1 h2 => hp.grow.block k h1 (fun e => h2 e.symm)
  have l10 := lt_of_block h.box10
  have b10' := (hk b10 l10 hs10).trans h.box10
  have o5 := Own.push [_] others h.own hp
  have c5 := Own.get [] _ o5
  have g1 : (w5.setCell ⟨b10, 0, none⟩ v5).heap[b10]? = some (.cells #[v5] 34 (0, 0)) := cells_set b10' 0 v5
  have o6 := o5.setOther (a := ⟨b10, 0, none⟩) b10' (by decide) v5
  have o7 := Own.set [] _ (i := κ x) o6 (by rw [tv_length]; exact hx) (.int .i64 ((P.length : Int) + 1))
  rw [tv_set, tv_congr (S := numT κ (P ++ [x])) (fun i _ => (numT_meet hidx i).symm), iv_push] at o7
  have hcell := c5.cellOf (i := κ x) (by rw [tv_length]; exact hx)
  rw [tv_get, numT_at, if_neg hidx] at hcell
  have hw : ∀ k, k < w.heap.size → k ≠ b10 → k ≠ g → vS.ownBlock ≠ some k → ((w5.setCell ⟨b10, 0, none⟩ v5).setCell ⟨g, κ x, none⟩ (.int .i64 ((P.length : Int) + 1))).heap[k]? = w.heap[k]? := fun k h1 h2 h3 h4 => by
    rw [Below.heap_setCell _ _ _ _ h3, Below.heap_setCell _ _ _ _ h2, hk k h1 h4]
  refine ⟨b10', hcell, c5.free _, ⟨?_, ?_, ?_, ?_, ?_, h.b10B, h.b9n⟩, ⟨?_, ?_, ?_, ?_, hw, ?_⟩⟩
  · rw [hw b9 (lt_of_block h.box9) h.b9n h9g hs9]; exact h.box9
  · rw [hw bc (lt_of_block h.boxC) hc10 hcg hsc]; exact h.boxC
  · rw [Below.heap_setCell _ _ _ _ h10g]; exact g1
  · exact o7
  · exact h.cls.of_block fun k hk' => hw k (h.cls.lt hk') (fun e => block_apart h.cls h.box10 (by decide) (by rw [← e]; exact hk')) (fun e => Lst.apart hnum h.cls (by decide) g rfl (by rw [← e]; exact hk')) (fun e => Lst.apart hst h.cls (by decide) k e hk')
  · exact hp.grow.os
  · exact hp.grow.tape
  · exact hp.grow.output
  · have := hp.grow.size; simp only [World.setCell, Array.size_modify] at *; omega
  · rcases hp.at_ with e | ⟨q, e, hq⟩
    · exact .inl e
    · exact .inr ⟨q, e, hq⟩

theorem MetFrame.refl (w : World) (b5 g : Nat) (v : Value) : MetFrame w w b5 g v v := ⟨rfl, rfl, rfl, Nat.le_refl _, fun _ _ _ _ _ => rfl, .inl rfl⟩

set_option maxHeartbeats 4000000 in
theorem meetS (x : Nat) (w : World) (B Bc b9 bc b10 g n m : Nat) (vC vS : Value) (κ : Nat → Nat) (P : List Nat) (others : List (Value × List Value)) (h : MS w B Bc b9 bc b10 g n m vC vS κ P others) (hB : B ≤ w.heap.size) (hx : x < m) (hκ : κ x < n) (hn : n ≤ 10000000) (hm : m ≤ 10000000) (hP : P.length ≤ 10000000) :
    Calls Tryd.prog 96 #[.int .i64 x, .pointer (some ⟨b9, 0, none⟩), .pointer (some ⟨bc, 0, none⟩), .pointer (some ⟨b10, 0, none⟩)] w fun e w' =>
      ∃ vS', e = .returned (.int .i64 ((idx κ P x : Nat) : Int)) ∧ MS w' B Bc b9 bc b10 g n m vC vS' κ (TidyMath.meet κ P x) others ∧ MetFrame w w' b10 g vS vS' := by
  have HM := Lib.hid h
  have HB := Lib.hid hB
  have c9 := cells_get h.box9 0
  have cc := cells_get h.boxC 0
  simp at c9 cc
  have l9 := lt_of_block h.box9
  have lc := lt_of_block h.boxC
  obtain ⟨ac, nc, cpc, rfl, HNC⟩ := h.cls.shape'
  have hnc : nc = m := by rw [HNC.out, tw_length]
  subst hnc
  obtain ⟨gc, rfl, hgc⟩ := h.cls.addr (by rw [tw_length]; omega)
  have cx := h.cls.cellOf (i := x) (by rw [tw_length]; exact hx)
  rw [tw_get] at cx
  obtain ⟨y, hy⟩ : ∃ y, y = κ x := ⟨_, rfl⟩
  rw [← hy] at cx hκ
  have HY := Lib.hid hy
  clear h HNC hB hy
  go_enter Tryd.func96, Tryd.ntmps96
  go_upto_region 1 with fail
  go_cut [6] (fun v wx => v = .pointer (some ⟨g, y, none⟩) ∧ ∃ q, wx = w.drewN q)
  case first =>
    go_quiet (fail)
    go_wp2_with fail
    go_meet
    exact ⟨rfl, _, rfl⟩
  case rest =>
    obtain ⟨rfl, q, rfl⟩ := hcut
    have HF := Lib.hid (fun (w6 : World) (v6 : Value) (hf : MetFrame (w.drewN q) w6 b10 g vS v6) => (show MetFrame w w6 b10 g vS v6 from ⟨hf.os, hf.tape, hf.output, hf.size, hf.block, hf.at_⟩))
    have hM1 := HM.out.drewN q
    have hB1 : B ≤ (w.drewN q).heap.size := HB.out
    generalize w.drewN q = wq at hM1 hB1 HF ⊢
    have HM1 := Lib.hid hM1
    have HB1 := Lib.hid hB1
    have c10 := cells_get hM1.box10 0
    simp at c10
    have l10 := lt_of_block hM1.box10
    have f10 := cells_free hM1.box10 0
    have cN := (Own.get [] _ hM1.own).cellOf (i := y) (by rw [tv_length]; exact hκ)
    rw [tv_get, HY.out, numT_at, ← HY.out] at cN
    have lN := World.block_lt_of_cell? _ _ cN
    have fN := (Own.get [] _ hM1.own).free y
    obtain ⟨d, hd⟩ : ∃ d, d = idx κ P x := ⟨_, rfl⟩
    have HD := Lib.hid hd
    rw [← hd] at cN
    have hdP := idx_le κ P x
    rw [← hd] at hdP
    obtain ⟨aS, ns, cps, rfl, HNS⟩ := (Own.get [_] _ hM1.own).shape'
    have hns : ns = P.length := by rw [HNS.out, iv_length]
    subst hns
    clear hM1 hB1 hd c9 cc l9 lc cx
    by_cases hlt : d < P.length
    · rw [if_pos hlt] at cN
      have HMM := Lib.hid (show TidyMath.meet κ P x = P by unfold TidyMath.meet; rw [if_pos (by rw [← HD.out]; exact hlt)])
      have hz : (((d + 1 : Nat) : Int) == 0) = false := by simp; omega
      obtain ⟨z, hzz⟩ : ∃ z, z = d + 1 := ⟨_, rfl⟩
      have HZ := Lib.hid hzz
      rw [← hzz] at cN hz
      clear hzz
      have hz1 : 1 ≤ z := by have := HZ.out; omega
      have hz2 : z ≤ 10000001 := by have := HZ.out; omega
      go_wp2_with fail
      go_ret
      exact ⟨by rw [HZ.out, ← HD.out]; simp, _, by rw [HMM.out]; exact HM1.out, HF.out _ _ (MetFrame.refl _ _ _ _)⟩
    · rw [if_neg hlt] at cN
      have HDE := Lib.hid (show d = P.length by omega)
      have HMM := Lib.hid (show TidyMath.meet κ P x = P ++ [x] by unfold TidyMath.meet; rw [if_neg (by rw [← HD.out]; exact hlt)])
      have h5g : b10 ≠ g := fun e => block_apart (Own.get [] _ HM1.out.own) HM1.out.box10 (by decide) (by rw [e]; rfl)
      have h5g' : g ≠ b10 := Ne.symm h5g
      have HNW := Lib.hid (fun w5 v5 hp => HM1.out.new (w5 := w5) (v5 := v5) (x := x) (by rw [← HY.out]; exact hκ) (by rw [← HD.out]; exact hlt) hp)
      rw [← HY.out] at HNW
      have HLL := Lib.hid (show (iv P).length ≤ 100000000 by rw [iv_length]; omega)
      go_wp2_with (at_builtin; go_loud (refine wpList_push rfl _ _ 34 rfl 2 (.int .i64 0) 8 Tryd.underlying34 info2 (by decide) (by decide) B (.slice aS P.length cps) (iv P) (.int .i64 (x : Nat)) (Own.get [_] _ HM1.out.own) HB1.out rfl HLL.out rfl _ rfl rfl ?_; intro v5 w5 hp5; have HS := Lib.hid (HNW.out _ _ hp5); obtain ⟨a5, n5, cp5, rfl, HN5⟩ := hp5.lst.shape'; have hn5 := (show n5 = P.length + 1 by rw [HN5.out, List.length_append, iv_length]; rfl); subst hn5; have q5 := cells_get HS.out.box 0; have z5 := cells_free HS.out.box 0; have l5 := lt_of_block HS.out.box; have c6 := HS.out.cell; have f6 := HS.out.free; rw [← HY.out] at c6 f6; have l6 := World.block_lt_of_cell? _ _ c6; simp at q5; clear hp5))
      go_ret
      exact ⟨by rw [← HD.out, HDE.out]; simp, _, by rw [HMM.out]; exact HS.out.ms, HF.out _ _ HS.out.frame⟩
end Go.Proofs.YtgaipjofhkijbaaDoor.States
/- The pads of columns, as the program has them: a row of numbers; and whether a column may follow.
   Conditions: one to three tapes. -/
namespace Go.Proofs.YtgaipjofhkijbaaDoor.Pads
set_option linter.unusedVariables false
set_option linter.unusedSimpArgs false
open Go.RowKit Mem Copy Rel Columns ColMath Numbers TidyRight

theorem cell_other {w : World} {p q : Addr} {u : Value} (h : q.block ≠ p.block) : (w.setCell p u).cell? q = w.cell? q := by
  have := Below.heap_setCell w p u q.block h
  simp only [World.cell?, this]
theorem pd_zero (c : Nat) : pd 0 c = 0 := rfl
theorem pd_or : ∀ t, t < 3 → ∀ c, c < 26 → c / 3 ^ t % 3 = 2 → bits BinOp.or IntKind.i64 ((pd t c : Nat) : Int) ((2 ^ t : Nat) : Int) = ((pd (t + 1) c : Nat) : Int) := by decide +kernel
theorem pd_same : ∀ t, t < 3 → ∀ c, c < 26 → ¬ c / 3 ^ t % 3 = 2 → pd (t + 1) c = pd t c := by decide +kernel
theorem fol_bits : ∀ e, e < 8 → ∀ p, p < 8 → (bits BinOp.andNot IntKind.i64 ((e : Nat) : Int) ((p : Nat) : Int) == 0) = fol e p := by decide +kernel

theorem letT_pad (k c t : Nat) (ht : t < k) (h3 : k ≤ 3) : (letT k (c : Int) t = 35) ↔ c / 3 ^ t % 3 = 2 := by
  have e : ((c : Int) / pow3 t % 3) = ((c / 3 ^ t % 3 : Nat) : Int) := by
    have : t = 0 ∨ t = 1 ∨ t = 2 := by omega
    rcases this with rfl | rfl | rfl <;> simp [pow3]
  unfold letT
  rw [if_pos ht, e]
  have : c / 3 ^ t % 3 = 0 ∨ c / 3 ^ t % 3 = 1 ∨ c / 3 ^ t % 3 = 2 := by omega
  rcases this with h | h | h <;> rw [h] <;> simp [letA]

theorem mayFollow (e p : Nat) (he : e < 8) (hp : p < 8) (w : World) :
    Calls Tryd.prog 103 #[.int .i64 e, .int .i64 p] w fun x w' => x = .returned (.bool (fol e p)) ∧ w = w' := by
  go_enter Tryd.func103, Tryd.ntmps103
  go_wp2
  go_ret
  exact ⟨congrArg (fun b => Ending.returned (.bool b)) (fol_bits e he p hp), rfl⟩

set_option maxHeartbeats 4000000 in
theorem pads (k : Nat) (h1 : 1 ≤ k) (h3 : k ≤ 3) (w : World) :
    Calls Tryd.prog 101 #[.int .i64 k] w fun e w' => e = .returned (.slice (some ⟨w.heap.size, 0, none⟩) (wide k) (wide k)) ∧ w'.rowIs w.heap.size 2 (wide k) (fun c => .int .i64 (pd k c : Nat)) ∧ Below w.heap.size w w' := by
  have hcnt := countAny (k : Int) (by omega) (by omega)
  have hwk : widthOf (k : Int) = ((wide k : Nat) : Int) := by
    have : k = 1 ∨ k = 2 ∨ k = 3 := by omega
    rcases this with rfl | rfl | rfl <;> rfl
  rw [hwk] at hcnt
  have hw26 : wide k ≤ 26 := by have := wide_cases h1 h3; omega
  have HL := Lib.hid (fun (c : Nat) (hc : c < 26) W => lettersAny k h1 h3 (c : Int) (by omega) (by omega) W)
  obtain ⟨n, hn⟩ : ∃ n, n = wide k := ⟨_, rfl⟩
  rw [← hn] at hcnt hw26
  rw [← hn]
  have HC := Lib.hid hcnt
  have hmk := run_make_row' (P := Tryd.prog) 34 2 (.int .i64 0) 8 Tryd.underlying34 info2 rfl .i64 .i64 n (by omega) (by omega)
  clear hcnt hwk hn
  go_enter Tryd.func101, Tryd.ntmps101
  go_wp2_with (go_at_call 58; refine (HC.out _).mono ?_; rintro e w' ⟨rfl, rfl⟩)
  go_loopw [4, 5, 6, 12, 19] (fun _ _ _ i _ wr => ∃ j : Nat, j ≤ n ∧ i = .int .i64 j ∧ wr.rowIs w.heap.size 2 n (fun c => .int .i64 (if c < j then ((pd k c : Nat) : Int) else 0)) ∧ Below w.heap.size w wr) (fun _ _ _ i _ _ => n - (intOf i).toNat)
  case atStart => exact ⟨0, Nat.zero_le _, rfl, (World.rowIs_made _ _ _ _).congr fun i hi => by rw [if_neg (Nat.not_lt_zero i)], (Below.refl _ _).alloc (Nat.le_refl _) _⟩
  case round =>
    obtain ⟨j, hj, rfl, hrow, hbel⟩ := hrel
    have HR := Lib.hid hrow
    have HB := Lib.hid hbel
    clear hmk hrow hbel
    by_cases hlt : j < n
    · have HLJ := Lib.hid (HL.out j (by omega))
      go_wp2_with fail
      refine (HLJ.out _).mono ?_
      rintro e w1 ⟨rfl, hb⟩
      have HB1 := Lib.hid (base_step HB.out hb)
      have HR1 := Lib.hid (rowIs_below HR.out hb HR.out.lt)
      clear hb
      obtain ⟨q, hq⟩ : ∃ q, q = w1.heap.size := ⟨_, rfl⟩
      have hMq : w.heap.size < q := by rw [hq]; exact HR1.out.lt
      unfold lettersV
      have HQ := Lib.hid (show ∀ i, i < 3 → (w1.alloc (.cells #[.int .u8 (letT k j 0), .int .u8 (letT k j 1), .int .u8 (letT k j 2)] 80)).cell? ⟨q, i, none⟩ = some (.int .u8 (letT k j i)) from fun i hi => by
        rw [hq, World.cell?_alloc_mark]
        have : i = 0 ∨ i = 1 ∨ i = 2 := by omega
        rcases this with rfl | rfl | rfl <;> rfl)
      have HR2 := Lib.hid (show (w1.alloc (.cells #[.int .u8 (letT k j 0), .int .u8 (letT k j 1), .int .u8 (letT k j 2)] 80)).rowIs w.heap.size 2 n (fun c => .int .i64 (if c = j then ((pd 0 j : Nat) : Int) else if c < j then ((pd k c : Nat) : Int) else 0)) from
        (rowIs_below HR1.out ((Below.refl _ _).alloc (Nat.le_refl _) _) HR1.out.lt).congr fun i hi => by
          by_cases e : i = j
          · rw [if_pos e, if_neg (by omega), pd_zero]; rfl
          · rw [if_neg e])
      have HB2 := Lib.hid (show Below w.heap.size w (w1.alloc (.cells #[.int .u8 (letT k j 0), .int .u8 (letT k j 1), .int .u8 (letT k j 2)] 80)) from HB1.out.alloc HB1.out.size _)
      go_wp2_with fail
      rw [← hq]
      go_loopw [6, 19] (fun _ t wr => ∃ u : Nat, u ≤ k ∧ t = .int .i64 u ∧ wr.rowIs w.heap.size 2 n (fun c => .int .i64 (if c = j then ((pd u j : Nat) : Int) else if c < j then ((pd k c : Nat) : Int) else 0)) ∧ Below w.heap.size w wr ∧ ∀ i, i < 3 → wr.cell? ⟨q, i, none⟩ = some (.int .u8 (letT k j i))) (fun _ t _ => k - (intOf t).toNat)
      case atStart => exact ⟨0, Nat.zero_le _, rfl, HR2.out, HB2.out, HQ.out⟩
      case round =>
        obtain ⟨u, hu, rfl, hrow, hbel, hlet⟩ := hrel
        have HR3 := Lib.hid hrow
        have HB3 := Lib.hid hbel
        have HQ3 := Lib.hid hlet
        clear hbel HQ HR2 HB2 HR1 HB1 HLJ hq
        by_cases hlu : u < k
        · have cL := hlet u (by omega)
          have cN := hrow.cell (show j < n from hlt)
          have fN := hrow.frozen j
          rw [if_pos rfl] at cN
          have HPAD := Lib.hid (letT_pad k j u hlu h3)
          have HOR := Lib.hid (pd_or u (by omega) j (by omega))
          have HSM := Lib.hid (pd_same u (by omega) j (by omega))
          obtain ⟨l, hl⟩ : ∃ l, l = letT k (j : Int) u := ⟨_, rfl⟩
          rw [← hl] at cL HPAD
          obtain ⟨x, hx⟩ : ∃ x, x = pd u j := ⟨_, rfl⟩
          rw [← hx] at cN HOR HSM
          have HLU := Lib.hid hlu
          have HXX := Lib.hid hx
          clear hl hx hlet hrow
          by_cases h2 : j / 3 ^ u % 3 = 2
          · obtain rfl : l = 35 := HPAD.out.2 h2
            have hor := HOR.out h2
            have HX := Lib.hid hor
            clear h2 HPAD hor
            have h3 : u = 0 ∨ u = 1 ∨ u = 2 := by omega
            rcases h3 with rfl | rfl | rfl
            all_goals
              have hor := HX.out
              simp at hor
              go_wp2_with fail
              go_region_with fail
              all_goals
                go_wp2_with fail
                go_roundw
                case rel =>
                  refine ⟨_, HLU.out, by go_num, (World.rowIs.set (w := wr.drew) HR3.out j _).congr fun i hi => ?_, HB3.out.drew.setCell (Nat.le_refl _) _, fun i hi => ?_⟩
                  · by_cases e : i = j
                    · subst e
                      rw [if_pos rfl, if_pos rfl]
                      exact congrArg (Value.int .i64) HX.out
                    · simp only [if_neg e]
                  · exact (cell_other (by show q ≠ w.heap.size; omega)).trans (HQ3.out i hi)
                case measure => simp [intOf]; omega
          · have hne : (l == 35) = false := by simp; exact fun h => h2 (HPAD.out.1 h)
            have HX := Lib.hid (HSM.out h2)
            clear HOR
            go_wp2_with fail
            go_roundw
            case rel => exact ⟨u + 1, HLU.out, by go_num, by rw [HX.out, HXX.out]; exact HR3.out, HB3.out, HQ3.out⟩
            case measure => simp [intOf]; omega
        · obtain rfl : u = k := by omega
          clear hlet hrow
          go_wp2_with fail
          go_roundw
          case rel =>
            refine ⟨j + 1, hlt, by go_num, HR3.out.congr fun i hi => ?_, HB3.out⟩
            by_cases e : i = j
            · subst e; rw [if_pos rfl, if_pos (Nat.lt_succ_self i)]
            · have h1 : (i < j + 1) = (i < j) := by apply propext; constructor <;> intro h <;> omega
              simp only [if_neg e, h1]
          case measure => simp [intOf]; omega
    · obtain rfl : j = n := by omega
      go_wp2_with fail
      go_ret
      exact ⟨rfl, HR.out.congr fun i hi => by rw [if_pos hi], HB.out⟩
end Go.Proofs.YtgaipjofhkijbaaDoor.Pads
