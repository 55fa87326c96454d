
/- A relation that is put together beside states that are met; a list that is cloned.
   Conditions: stated at each theorem. -/
import Derived.Test.YthebmpdkiocbmaaDoorStates
import Derived.Test.YthebmpdkiocbmaaDoorImplRight
namespace Go.Proofs.YthebmpdkiocbmaaDoor.TidyState
set_option linter.unusedVariables false
set_option maxRecDepth 20000
set_option linter.unusedSimpArgs false
open Go.RowKit Mem Copy Rel Heap Bld TidyMath TidyClass TidyAuto TidyNum Places ImplClasses ImplRight States MarkRow

structure Bx (w : World) (Bc b9 bc b10 g n m : Nat) (vC vS : Value) (κ : Nat → Nat) : Prop where
  box9 : w.heap[b9]? = some (.cells #[.slice (some ⟨g, 0, none⟩) n n] 34 (0, 0))
  boxC : w.heap[bc]? = some (.cells #[vC] 138 (0, 0))
  box10 : w.heap[b10]? = some (.cells #[vS] 34 (0, 0))
  cls : Lst w Bc 21 vC (tw m κ)
variable {w w' : World} {B Bc b9 bc b10 g n m ob k : Nat} {vC vS va vn : Value} {κ : Nat → Nat}
theorem Bx.of_block (h : Bx w Bc b9 bc b10 g n m vC vS κ) (hb : ∀ q, q < w.heap.size → (q = b9 ∨ q = bc ∨ q = b10 ∨ vC.ownBlock = some q) → w'.heap[q]? = w.heap[q]?) : Bx w' Bc b9 bc b10 g n m vC vS κ :=
  ⟨by rw [hb b9 (lt_of_block h.box9) (.inl rfl)]; exact h.box9, by rw [hb bc (lt_of_block h.boxC) (.inr (.inl rfl))]; exact h.boxC, by rw [hb b10 (lt_of_block h.box10) (.inr (.inr (.inl rfl)))]; exact h.box10,
    h.cls.of_block fun q hq => hb q (h.cls.lt hq) (.inr (.inr (.inr hq)))⟩
theorem Bx.grown {t : TypeId} {u : Value} {xs : List Value} (h : Bx w Bc b9 bc b10 g n m vC vS κ) (hl : Lst w B t u xs) (hg : w.grownBy w' u.ownBlock) (h1 : u.ownBlock ≠ some b9) (h2 : t ≠ 138) (h3 : u.ownBlock ≠ some b10) (h4 : t ≠ 21) : Bx w' Bc b9 bc b10 g n m vC vS κ :=
  h.of_block fun q hq hc => hg.block q hq fun e => by
    rcases hc with rfl | rfl | rfl | hc
    · exact h1 e.symm
    · exact block_apart hl h.boxC h2 e.symm
    · exact h3 e.symm
    · exact Lst.apart h.cls hl (Ne.symm h4) q hc e.symm
theorem Bx.setOther {a : Addr} {c : Array Value} {t : TypeId} {r : Nat × Nat} (h : Bx w Bc b9 bc b10 g n m vC vS κ) (hb : w.heap[a.block]? = some (.cells c t r)) (h1 : t ≠ 34) (h2 : t ≠ 138) (h3 : t ≠ 21) (u : Value) : Bx (w.setCell a u) Bc b9 bc b10 g n m vC vS κ :=
  h.of_block fun q hq hc => Below.heap_setCell _ _ _ _ fun e => by
    rcases hc with rfl | rfl | rfl | hc
    · have := h.box9; rw [e, hb] at this; cases this; exact h1 rfl
    · have := h.boxC; rw [e, hb] at this; cases this; exact h2 rfl
    · have := h.box10; rw [e, hb] at this; cases this; exact h1 rfl
    · rw [e] at hc; exact block_apart h.cls hb (Ne.symm h3) hc

/-- The relation that is built, the lists beside, and the variables. -/
structure TS (w : World) (B Bc b9 bc b10 g n m ob k : Nat) (vC vS va vn : Value) (κ : Nat → Nat) (P : List Nat) (rows items : List (Value × List Value)) (accs : List Value) : Prop where
  bld : Bld w B ob k 0 va vn ((.slice (some ⟨g, 0, none⟩) n n, tv n (numT κ P)) :: (vS, iv P) :: rows) items accs
  bx : Bx w Bc b9 bc b10 g n m vC vS κ
  b10B : B ≤ b10
  b9n : b9 ≠ b10
  v9 : vn.ownBlock ≠ some b9
  v10 : vn.ownBlock ≠ some b10
variable {P Q : List Nat} {rows items : List (Value × List Value)} {accs : List Value}

theorem TS.ms (h : TS w B Bc b9 bc b10 g n m ob k vC vS va vn κ P rows items accs) : MS w B Bc b9 bc b10 g n m vC vS κ P (rows ++ items) :=
  ⟨h.bx.box9, h.bx.boxC, h.bx.box10, h.bld.own, h.bx.cls, h.b10B, h.b9n⟩
theorem TS.below (h : TS w B Bc b9 bc b10 g n m ob k vC vS va vn κ P rows items accs) (hb : Below w.heap.size w w') : TS w' B Bc b9 bc b10 g n m ob k vC vS va vn κ P rows items accs :=
  ⟨h.bld.below hb, h.bx.of_block fun q hq _ => hb.block q hq, h.b10B, h.b9n, h.v9, h.v10⟩
theorem TS.drewN (h : TS w B Bc b9 bc b10 g n m ob k vC vS va vn κ P rows items accs) (q : Nat) : TS (w.drewN q) B Bc b9 bc b10 g n m ob k vC vS va vn κ P rows items accs :=
  ⟨h.bld.drewN q, ⟨h.bx.box9, h.bx.boxC, h.bx.box10, h.bx.cls⟩, h.b10B, h.b9n, h.v9, h.v10⟩
theorem TS.met {vS' : Value} (h : TS w B Bc b9 bc b10 g n m ob k vC vS va vn κ P rows items accs) (hm : MS w' B Bc b9 bc b10 g n m vC vS' κ Q (rows ++ items)) (hf : MetFrame w w' b10 g vS vS') : TS w' B Bc b9 bc b10 g n m ob k vC vS' va vn κ Q rows items accs := by
  have hnum := Own.get [] _ h.bld.own
  have hst := Own.get [_] _ h.bld.own
  refine ⟨⟨hm.own, ?_, ?_, ?_, h.bld.obB⟩, ⟨hm.box9, hm.boxC, hm.box10, hm.cls⟩, h.b10B, h.b9n, h.v9, h.v10⟩
  · exact h.bld.acc.of_block fun q hq => hf.block q (h.bld.acc.lt hq) (fun e => block_apart h.bld.acc h.bx.box10 (by decide) (by rw [← e]; exact hq)) (fun e => Lst.apart hnum h.bld.acc (by decide) g rfl (by rw [← e]; exact hq)) (fun e => Lst.apart hst h.bld.acc (by decide) q e hq)
  · exact h.bld.nxt.of_block fun q hq => hf.block q (h.bld.nxt.lt hq) (fun e => h.v10 (by rw [← e]; exact hq)) (fun e => Lst.apart hnum h.bld.nxt (by decide) g rfl (by rw [← e]; exact hq)) (fun e => Lst.apart hst h.bld.nxt (by decide) q e hq)
  · rw [hf.block ob h.bld.lt (fun e => by have h1 := h.bld.at_; rw [e, h.bx.box10] at h1; cases h1) (fun e => block_apart hnum h.bld.at_ (by decide) (by rw [e]; rfl)) (block_apart hst h.bld.at_ (by decide))]
    exact h.bld.at_
theorem TS.addRow (h : TS w B Bc b9 bc b10 g n m ob k vC vS va vn κ P [] items accs) (hb : Below w.heap.size w w') {v : Value} {xs : List Value} (hl : Lst w' B 2 v xs) (hn : ∀ q, v.ownBlock = some q → w.heap.size ≤ q) : TS w' B Bc b9 bc b10 g n m ob k vC vS va vn κ P [(v, xs)] items accs :=
  ⟨(h.bld.addInt hb hl hn).perm ((List.Perm.swap _ _ _).trans ((List.Perm.swap _ _ _).cons _)), (h.below hb).bx, h.b10B, h.b9n, h.v9, h.v10⟩
theorem TS.setRow {q cap c : Nat} {r : Nat} {xs : List Value} (h : TS w B Bc b9 bc b10 g n m ob k vC vS va vn κ P [(.slice (some ⟨q, 0, none⟩) r cap, xs)] items accs) (hc : c < xs.length) (u : Value) : TS (w.setCell ⟨q, c, none⟩ u) B Bc b9 bc b10 g n m ob k vC vS va vn κ P [(.slice (some ⟨q, 0, none⟩) r cap, xs.set c u)] items accs := by
  obtain ⟨cur, hq⟩ := lst_block (Own.get [_, _] _ h.bld.own)
  exact ⟨h.bld.setInt [_, _] [] hc u, h.bx.setOther (a := ⟨q, c, none⟩) hq (by decide) (by decide) (by decide) u, h.b10B, h.b9n, h.v9, h.v10⟩
theorem TS.pushAcc {va' u : Value} (h : TS w B Bc b9 bc b10 g n m ob k vC vS va vn κ P rows items accs) (hp : Pushed w w' B 4 va va' accs u) : TS (w'.setCell ⟨ob, 2, none⟩ va') B Bc b9 bc b10 g n m ob k vC vS va' vn κ P rows items (accs ++ [u]) :=
  ⟨h.bld.pushAcc hp, (h.bx.grown h.bld.acc hp.grow (block_apart h.bld.acc h.bx.box9 (by decide)) (by decide) (block_apart h.bld.acc h.bx.box10 (by decide)) (by decide)).setOther (a := ⟨ob, 2, none⟩) (h.bld.obAcc hp) (by decide) (by decide) (by decide) va', h.b10B, h.b9n, h.v9, h.v10⟩
theorem TS.pushNext {vn' v : Value} {xs : List Value} (h : TS w B Bc b9 bc b10 g n m ob k vC vS va vn κ P [(v, xs)] items accs) (hp : Pushed w w' B 34 vn vn' (items.map Prod.fst) v) : TS (w'.setCell ⟨ob, 3, none⟩ vn') B Bc b9 bc b10 g n m ob k vC vS va vn' κ P [] (items ++ [(v, xs)]) accs := by
  have l9 := lt_of_block h.bx.box9
  have l10 := lt_of_block h.bx.box10
  have hv : ∀ q, q < w.heap.size → vn.ownBlock ≠ some q → vn'.ownBlock ≠ some q := fun q hq hn => by
    rcases hp.at_ with e | ⟨x, e, hx⟩
    · rw [e]; exact hn
    · rw [e]; intro e2; injection e2 with e2; omega
  exact ⟨h.bld.pushNext [_, _] [] hp, (h.bx.grown h.bld.nxt hp.grow h.v9 (by decide) h.v10 (by decide)).setOther (a := ⟨ob, 3, none⟩) (h.bld.obNext hp) (by decide) (by decide) (by decide) vn', h.b10B, h.b9n, hv b9 l9 h.v9, hv b10 l10 h.v10⟩

theorem not_nil (b o n cap : Nat) (w : World) : (binOp BinOp.eql 34 (.slice (some ⟨b, o, none⟩) n cap) (.slice none 0 0)).run Tryd.prog w = .ok (.bool false) w := by kernel_rfl
set_option maxHeartbeats 1000000 in
/-- slices.Clone of a list of numbers. -/
theorem clone (xs : List Int) (v : Value) (w : World) (B0 : Nat) (h : Ints w B0 v xs) (hB : B0 ≤ w.heap.size) (h0 : 0 < xs.length) (hl : xs.length ≤ 1000) :
    Calls Tryd.prog 114 #[v] w fun e w' => ∃ a cap, e = .returned (.slice a xs.length cap) ∧ Lst w' w.heap.size 2 (.slice a xs.length cap) (xs.map (Value.int .i64)) ∧ Below w.heap.size w w' := by
  obtain ⟨a, b, o, cap, rfl, -, ha, hc⟩ := h
  obtain ⟨rfl, hb⟩ := ha h0
  obtain ⟨i, hi, hz, hsize, hbytes⟩ := info_parts info2
  have HC := Lib.hid hc
  obtain ⟨n, hn⟩ : ∃ n, n = xs.length := ⟨_, rfl⟩
  have HNN := Lib.hid hn
  rw [← hn] at h0 hl ⊢
  have HO := Lib.hid (show (w.alloc (.cells #[] 2)).ownsRow w.heap.size 2 1 (.slice (some ⟨w.heap.size, 0, none⟩) 0 0) 0 [] from World.ownsRow_made w #[] 0 (Nat.le_refl _) (by unfold maxLen; omega) rfl)
  have HNW := Lib.hid (show ∀ j u, (xs.map (Value.int .i64))[j]? = some u → (w.alloc (.cells #[] 2)).cell? ((⟨b, o, none⟩ : Addr).add j) = some u from fun j u hj => by
    have hadd : (⟨b, o, none⟩ : Addr).add j = ⟨b, o + j, none⟩ := by unfold Addr.add; split <;> simp_all
    obtain ⟨hj1, hj2⟩ := List.getElem?_eq_some_iff.1 hj
    have hj3 : j < xs.length := by simpa using hj1
    rw [hadd, World.cell?_of_block (w := w) (Below.heap_alloc _ _ _ (by show b < w.heap.size; omega)), HC.out j (by rw [← HNN.out]; rw [HNN.out]; exact hj3), ← hj2]
    simp [List.getD, hj3])
  have HLN := Lib.hid (show (xs.map (Value.int .i64)).length = n * 1 by rw [List.length_map, Nat.mul_one, HNN.out])
  have HON := Lib.hid (show ∀ u ∈ xs.map (Value.int .i64), u.oneCell' = true from fun u hu => by obtain ⟨y, -, rfl⟩ := List.mem_map.1 hu; rfl)
  have hbw : b < w.heap.size := by omega
  have hnil := not_nil b o n cap w
  clear hc hn
  go_enter Tryd.func114, Tryd.ntmps114
  go_wp2_with (at_builtin; refine wpList_append_own_at (P := Tryd.prog) _ rfl _ _ 34 rfl w.heap.size 2 i (.int .i64 0) 1 8 Tryd.underlying34 hi hz hsize hbytes rfl (by decide) (.slice (some ⟨w.heap.size, 0, none⟩) 0 0) 0 [] rfl HO.out ⟨b, o, none⟩ n cap (xs.map (Value.int .i64)) rfl HLN.out HNW.out HON.out (by unfold maxLen; omega) (by omega) (by rw [size_alloc']; omega) ?_; intro v5 w5 ho hg _ hat; rw [Nat.zero_add, List.nil_append] at ho; have HLS := Lib.hid (show Lst w5 w.heap.size 2 v5 (xs.map (Value.int .i64)) from (by unfold Lst; rw [List.length_map, ← HNN.out]; exact ho)); obtain ⟨a5, n5, c5, rfl, HN5⟩ := HLS.out.shape'; have HG5 := Lib.hid hg; clear ho hat hg)
  have h5 : n5 = n := by rw [HN5.out, List.length_map, HNN.out]
  subst h5
  go_ret
  exact ⟨a5, c5, rfl, HLS.out, ((Below.refl _ _).alloc (Nat.le_refl _) _).grown HG5.out (by rw [size_alloc']; omega) (fun q e => by cases e; exact Nat.le_refl _)⟩
end Go.Proofs.YthebmpdkiocbmaaDoor.TidyState
