
/- A relation that is put together beside states that are met; a list that is cloned.
   Conditions: stated at each theorem. -/
import Derived.Test.YtaimealknkhfbaaDoorRB17
import Derived.Test.YtaimealknkhfbaaDoorRB19
namespace Go.Proofs.YtaimealknkhfbaaDoor.TidyState
set_option linter.unusedVariables false
set_option maxRecDepth 20000
set_option linter.unusedSimpArgs false
open Go.RowKit Mem Copy Rel Heap Bld TidyMath TidyClass TidyAuto TidyNum Places ImplClasses ImplRight States MarkRow

structure Bx (w : World) (Bc b9 bc b10 g n m : Nat) (vC vS : Value) (κ : Nat → Nat) : Prop where
  box9 : w.heap[b9]? = some (.cells #[.slice (some ⟨g, 0, none⟩) n n] 52 (0, 0))
  boxC : w.heap[bc]? = some (.cells #[vC] 120 (0, 0))
  box10 : w.heap[b10]? = some (.cells #[vS] 52 (0, 0))
  cls : Lst w Bc 21 vC (tw m κ)
variable {w w' : World} {B Bc b9 bc b10 g n m ob k : Nat} {vC vS va vn : Value} {κ : Nat → Nat}
theorem Bx.of_block (h : Bx w Bc b9 bc b10 g n m vC vS κ) (hb : ∀ q, q < w.heap.size → (q = b9 ∨ q = bc ∨ q = b10 ∨ vC.ownBlock = some q) → w'.heap[q]? = w.heap[q]?) : Bx w' Bc b9 bc b10 g n m vC vS κ :=
  ⟨by rw [hb b9 (lt_of_block h.box9) (.inl rfl)]; exact h.box9, by rw [hb bc (lt_of_block h.boxC) (.inr (.inl rfl))]; exact h.boxC, by rw [hb b10 (lt_of_block h.box10) (.inr (.inr (.inl rfl)))]; exact h.box10,
    h.cls.of_block fun q hq => hb q (h.cls.lt hq) (.inr (.inr (.inr hq)))⟩
theorem Bx.grown {t : TypeId} {u : Value} {xs : List Value} (h : Bx w Bc b9 bc b10 g n m vC vS κ) (hl : Lst w B t u xs) (hg : w.grownBy w' u.ownBlock) (h1 : u.ownBlock ≠ some b9) (h2 : t ≠ 120) (h3 : u.ownBlock ≠ some b10) (h4 : t ≠ 21) : Bx w' Bc b9 bc b10 g n m vC vS κ :=
  h.of_block fun q hq hc => hg.block q hq fun e => by
    rcases hc with rfl | rfl | rfl | hc
    · exact h1 e.symm
    · exact block_apart hl h.boxC h2 e.symm
    · exact h3 e.symm
    · exact Lst.apart h.cls hl (Ne.symm h4) q hc e.symm
theorem Bx.setOther {a : Addr} {c : Array Value} {t : TypeId} {r : Nat × Nat} (h : Bx w Bc b9 bc b10 g n m vC vS κ) (hb : w.heap[a.block]? = some (.cells c t r)) (h1 : t ≠ 52) (h2 : t ≠ 120) (h3 : t ≠ 21) (u : Value) : Bx (w.setCell a u) Bc b9 bc b10 g n m vC vS κ :=
  h.of_block fun q hq hc => Below.heap_setCell _ _ _ _ fun e => by
    rcases hc with rfl | rfl | rfl | hc
    · have := h.box9; rw [e, hb] at this; cases this; exact h1 rfl
    · have := h.boxC; rw [e, hb] at this; cases this; exact h2 rfl
    · have := h.box10; rw [e, hb] at this; cases this; exact h1 rfl
    · rw [e] at hc; exact block_apart h.cls hb (Ne.symm h3) hc

/-- The relation that is built, the lists beside, and the variables. -/
structure TS (w : World) (B Bc b9 bc b10 g n m ob k : Nat) (vC vS va vn : Value) (κ : Nat → Nat) (P : List Nat) (rows items : List (Value × List Value)) (accs : List Value) : Prop where
  bld : Bld w B ob k 0 va vn ((.slice (some ⟨g, 0, none⟩) n n, tv n (numT κ P)) :: (vS, iv P) :: rows) items accs
  bx : Bx w Bc b9 bc b10 g n m vC vS κ
  b10B : B ≤ b10
  b9n : b9 ≠ b10
  v9 : vn.ownBlock ≠ some b9
  v10 : vn.ownBlock ≠ some b10
variable {P Q : List Nat} {rows items : List (Value × List Value)} {accs : List Value}

theorem TS.ms (h : TS w B Bc b9 bc b10 g n m ob k vC vS va vn κ P rows items accs) : MS w B Bc b9 bc b10 g n m vC vS κ P (rows ++ items) :=
  ⟨h.bx.box9, h.bx.boxC, h.bx.box10, h.bld.own, h.bx.cls, h.b10B, h.b9n⟩
theorem TS.below (h : TS w B Bc b9 bc b10 g n m ob k vC vS va vn κ P rows items accs) (hb : Below w.heap.size w w') : TS w' B Bc b9 bc b10 g n m ob k vC vS va vn κ P rows items accs :=
  ⟨h.bld.below hb, h.bx.of_block fun q hq _ => hb.block q hq, h.b10B, h.b9n, h.v9, h.v10⟩
theorem TS.drewN (h : TS w B Bc b9 bc b10 g n m ob k vC vS va vn κ P rows items accs) (q : Nat) : TS (w.drewN q) B Bc b9 bc b10 g n m ob k vC vS va vn κ P rows items accs :=
  ⟨h.bld.drewN q, ⟨h.bx.box9, h.bx.boxC, h.bx.box10, h.bx.cls⟩, h.b10B, h.b9n, h.v9, h.v10⟩
theorem TS.met {vS' : Value} (h : TS w B Bc b9 bc b10 g n m ob k vC vS va vn κ P rows items accs) (hm : MS w' B Bc b9 bc b10 g n m vC vS' κ Q (rows ++ items)) (hf : MetFrame w w' b10 g vS vS') : TS w' B Bc b9 bc b10 g n m ob k vC vS' va vn κ Q rows items accs := by
  have hnum := Own.get [] _ h.bld.own
  have hst := Own.get [_] _ h.bld.own
  refine ⟨⟨hm.own, ?_, ?_, ?_, h.bld.obB⟩, ⟨hm.box9, hm.boxC, hm.box10, hm.cls⟩, h.b10B, h.b9n, h.v9, h.v10⟩
  · exact h.bld.acc.of_block fun q hq => hf.block q (h.bld.acc.lt hq) (fun e => block_apart h.bld.acc h.bx.box10 (by decide) (by rw [← e]; exact hq)) (fun e => Lst.apart hnum h.bld.acc (by decide) g rfl (by rw [← e]; exact hq)) (fun e => Lst.apart hst h.bld.acc (by decide) q e hq)
  · exact h.bld.nxt.of_block fun q hq => hf.block q (h.bld.nxt.lt hq) (fun e => h.v10 (by rw [← e]; exact hq)) (fun e => Lst.apart hnum h.bld.nxt (by decide) g rfl (by rw [← e]; exact hq)) (fun e => Lst.apart hst h.bld.nxt (by decide) q e hq)
  · rw [hf.block ob h.bld.lt (fun e => by have h1 := h.bld.at_; rw [e, h.bx.box10] at h1; cases h1) (fun e => block_apart hnum h.bld.at_ (by decide) (by rw [e]; rfl)) (block_apart hst h.bld.at_ (by decide))]
    exact h.bld.at_
theorem TS.addRow (h : TS w B Bc b9 bc b10 g n m ob k vC vS va vn κ P [] items accs) (hb : Below w.heap.size w w') {v : Value} {xs : List Value} (hl : Lst w' B 2 v xs) (hn : ∀ q, v.ownBlock = some q → w.heap.size ≤ q) : TS w' B Bc b9 bc b10 g n m ob k vC vS va vn κ P [(v, xs)] items accs :=
  ⟨(h.bld.addInt hb hl hn).perm ((List.Perm.swap _ _ _).trans ((List.Perm.swap _ _ _).cons _)), (h.below hb).bx, h.b10B, h.b9n, h.v9, h.v10⟩
theorem TS.setRow {q cap c : Nat} {r : Nat} {xs : List Value} (h : TS w B Bc b9 bc b10 g n m ob k vC vS va vn κ P [(.slice (some ⟨q, 0, none⟩) r cap, xs)] items accs) (hc : c < xs.length) (u : Value) : TS (w.setCell ⟨q, c, none⟩ u) B Bc b9 bc b10 g n m ob k vC vS va vn κ P [(.slice (some ⟨q, 0, none⟩) r cap, xs.set c u)] items accs := by
  obtain ⟨cur, hq⟩ := lst_block (Own.get [_, _] _ h.bld.own)
  exact ⟨h.bld.setInt [_, _] [] hc u, h.bx.setOther (a := ⟨q, c, none⟩) hq (by decide) (by decide) (by decide) u, h.b10B, h.b9n, h.v9, h.v10⟩
theorem TS.pushAcc {va' u : Value} (h : TS w B Bc b9 bc b10 g n m ob k vC vS va vn κ P rows items accs) (hp : Pushed w w' B 4 va va' accs u) : TS (w'.setCell ⟨ob, 2, none⟩ va') B Bc b9 bc b10 g n m ob k vC vS va' vn κ P rows items (accs ++ [u]) :=
  ⟨h.bld.pushAcc hp, (h.bx.grown h.bld.acc hp.grow (block_apart h.bld.acc h.bx.box9 (by decide)) (by decide) (block_apart h.bld.acc h.bx.box10 (by decide)) (by decide)).setOther (a := ⟨ob, 2, none⟩) (h.bld.obAcc hp) (by decide) (by decide) (by decide) va', h.b10B, h.b9n, h.v9, h.v10⟩
theorem TS.pushNext {vn' v : Value} {xs : List Value} (h : TS w B Bc b9 bc b10 g n m ob k vC vS va vn κ P [(v, xs)] items accs) (hp : Pushed w w' B 52 vn vn' (items.map Prod.fst) v) : TS (w'.setCell ⟨ob, 3, none⟩ vn') B Bc b9 bc b10 g n m ob k vC vS va vn' κ P [] (items ++ [(v, xs)]) accs := by
  have l9 := lt_of_block h.bx.box9
  have l10 := lt_of_block h.bx.box10
  have hv : ∀ q, q < w.heap.size → vn.ownBlock ≠ some q → vn'.ownBlock ≠ some q := fun q hq hn => by
    rcases hp.at_ with e | ⟨x, e, hx⟩
    · rw [e]; exact hn
    · rw [e]; intro e2; injection e2 with e2; omega
  exact ⟨h.bld.pushNext [_, _] [] hp, (h.bx.grown h.bld.nxt hp.grow h.v9 (by decide) h.v10 (by decide)).setOther (a := ⟨ob, 3, none⟩) (h.bld.obNext hp) (by decide) (by decide) (by decide) vn', h.b10B, h.b9n, hv b9 l9 h.v9, hv b10 l10 h.v10⟩

theorem not_nil (b o n cap : Nat) (w : World) : (binOp BinOp.eql 52 (.slice (some ⟨b, o, none⟩) n cap) (.slice none 0 0)).run Tryd.prog w = .ok (.bool false) w := by kernel_rfl
set_option maxHeartbeats 1000000 in
/-- slices.Clone of a list of numbers. -/
theorem clone (xs : List Int) (v : Value) (w : World) (B0 : Nat) (h : Ints w B0 v xs) (hB : B0 ≤ w.heap.size) (h0 : 0 < xs.length) (hl : xs.length ≤ 1000) :
    Calls Tryd.prog 74 #[v] w fun e w' => ∃ a cap, e = .returned (.slice a xs.length cap) ∧ Lst w' w.heap.size 2 (.slice a xs.length cap) (xs.map (Value.int .i64)) ∧ Below w.heap.size w w' := by
  obtain ⟨a, b, o, cap, rfl, -, ha, hc⟩ := h
  obtain ⟨rfl, hb⟩ := ha h0
  obtain ⟨i, hi, hz, hsize, hbytes⟩ := info_parts info2
  have HC := Lib.hid hc
  obtain ⟨n, hn⟩ : ∃ n, n = xs.length := ⟨_, rfl⟩
  have HNN := Lib.hid hn
  rw [← hn] at h0 hl ⊢
  have HO := Lib.hid (show (w.alloc (.cells #[] 2)).ownsRow w.heap.size 2 1 (.slice (some ⟨w.heap.size, 0, none⟩) 0 0) 0 [] from World.ownsRow_made w #[] 0 (Nat.le_refl _) (by unfold maxLen; omega) rfl)
  have HNW := Lib.hid (show ∀ j u, (xs.map (Value.int .i64))[j]? = some u → (w.alloc (.cells #[] 2)).cell? ((⟨b, o, none⟩ : Addr).add j) = some u from fun j u hj => by
    have hadd : (⟨b, o, none⟩ : Addr).add j = ⟨b, o + j, none⟩ := by unfold Addr.add; split <;> simp_all
    obtain ⟨hj1, hj2⟩ := List.getElem?_eq_some_iff.1 hj
    have hj3 : j < xs.length := by simpa using hj1
    rw [hadd, World.cell?_of_block (w := w) (Below.heap_alloc _ _ _ (by show b < w.heap.size; omega)), HC.out j (by rw [← HNN.out]; rw [HNN.out]; exact hj3), ← hj2]
    simp [List.getD, hj3])
  have HLN := Lib.hid (show (xs.map (Value.int .i64)).length = n * 1 by rw [List.length_map, Nat.mul_one, HNN.out])
  have HON := Lib.hid (show ∀ u ∈ xs.map (Value.int .i64), u.oneCell' = true from fun u hu => by obtain ⟨y, -, rfl⟩ := List.mem_map.1 hu; rfl)
  have hbw : b < w.heap.size := by omega
  have hnil := not_nil b o n cap w
  clear hc hn
  go_enter Tryd.func74, Tryd.ntmps74
  go_wp2_with (at_builtin; refine wpList_append_own_at (P := Tryd.prog) _ rfl _ _ 52 rfl w.heap.size 2 i (.int .i64 0) 1 8 Tryd.underlying52 hi hz hsize hbytes rfl (by decide) (.slice (some ⟨w.heap.size, 0, none⟩) 0 0) 0 [] rfl HO.out ⟨b, o, none⟩ n cap (xs.map (Value.int .i64)) rfl HLN.out HNW.out HON.out (by unfold maxLen; omega) (by omega) (by rw [size_alloc']; omega) ?_; intro v5 w5 ho hg _ hat; rw [Nat.zero_add, List.nil_append] at ho; have HLS := Lib.hid (show Lst w5 w.heap.size 2 v5 (xs.map (Value.int .i64)) from (by unfold Lst; rw [List.length_map, ← HNN.out]; exact ho)); obtain ⟨a5, n5, c5, rfl, HN5⟩ := HLS.out.shape'; have HG5 := Lib.hid hg; clear ho hat hg)
  have h5 : n5 = n := by rw [HN5.out, List.length_map, HNN.out]
  subst h5
  go_ret
  exact ⟨a5, c5, rfl, HLS.out, ((Below.refl _ _).alloc (Nat.le_refl _) _).grown HG5.out (by rw [size_alloc']; omega) (fun q e => by cases e; exact Nat.le_refl _)⟩
end Go.Proofs.YtaimealknkhfbaaDoor.TidyState
/- What the program's classesOf hands back: the classes of the states, if there are few.
   Conditions: stated at the theorem. -/
namespace Go.Proofs.YtaimealknkhfbaaDoor.ImplClassesOf
set_option linter.unusedVariables false
set_option linter.unusedSimpArgs false
open Go.RowKit Go.Maps Mem Copy Rel Heap Bld TidyMath TidyClass TidyAuto SpecFiner Sigs MarkRow ImplClasses

set_option maxRecDepth 100000 in
set_option maxHeartbeats 8000000 in
theorem classesOf (A : Au) (rows : List (List Nat)) (wd : Nat) (hR : RowsOk rows A.n wd) (hA : ∀ s, A.nx s = rows.getD s []) (hw : wd ≤ 26) (hn : A.n ≤ 1000000) (hn1 : 1 ≤ A.n) (mst : Nat) (hmst : mst ≤ 1000000)
    (accs : List Bool) (hac : accs.length = A.n) (hacc : ∀ s, s < A.n → accs.getD s false = A.acc s) (w : World) (B k : Nat) (va vn : Value) (ha : Bools w B va accs) (hx : IntRows w B vn (rows.map ofN)) (hB : B ≤ w.heap.size) :
    Calls Tryd.prog 72 #[.agg #[.int .i64 k, .int .i64 1, va, vn], .int .i64 mst] w fun e w' =>
      ∃ (av : Option Addr) (nv cv : Nat), e = .returned (.tuple #[.slice av nv cv, .bool (decide (TidyAuto.most A ≤ mst))]) ∧ Below w.heap.size w w' ∧ (TidyAuto.most A ≤ mst → Lst w' w.heap.size 21 (.slice av nv cv) (tw A.n (cls A (TidyAuto.stop A + 1)))) := by
  have HREC := Lib.hid (refine A rows wd hR hA hw hn hn1 mst hmst (TidyAuto.stop A) 0 (by omega))
  have HX := Lib.hid (fun W (hb : Below w.heap.size w W) => hx.below hb hB)
  have HAC := Lib.hid (fun W (hb : Below w.heap.size w W) => ha.below hb hB)
  obtain ⟨n, hnn⟩ : ∃ n, n = A.n := ⟨_, rfl⟩
  have HNN := Lib.hid hnn
  have hrl : rows.length = n := by rw [hR.1, hnn]
  obtain ⟨aa, ba, oa, ca, rfl, hma, haa, hca⟩ := ha
  obtain ⟨-, ⟨ab, bb, ob, cb, rfl, hmb, -, -⟩, -⟩ := hx
  rw [hac, ← hnn] at haa hca HAC hma ⊢
  rw [List.length_map, hrl] at HX hmb ⊢
  rw [← hnn] at hn hn1 hacc
  have HCA := Lib.hid (And.intro haa hca)
  have HACC := Lib.hid hacc
  have hmm := @run_makeMap Tryd.prog
  have hmf : ∀ (fn : Fn) (first cap : Array Value) (w : World), (Instr.makeFunc fn first cap).run Tryd.prog w = .ok (.func fn first cap) w := fun _ _ _ _ => rfl
  have hst : ∀ (a : Addr) (fn : Fn) (f c : Array Value) (w : World), (store a (.func fn f c)).run Tryd.prog w = stored Tryd.prog w a (.func fn f c) .plain := fun a fn f c w => run_store Tryd.prog w a _ .plain rfl
  have hmk := run_make_row' (P := Tryd.prog) 120 21 (.int .i32 0) 4 Tryd.underlying120 info32 rfl .i64 .i64 n (by omega) (by omega)
  clear hR hA hac hacc haa hca hnn hrl
  go_enter Tryd.func72, Tryd.ntmps72
  have HW := Lib.hid (show ∃ W, W = ((((((w.alloc (.cells #[.int .i64 k, .int .i64 1, .slice aa n ca, .slice ab n cb] 27)).alloc (.cells #[.int .i64 mst] 3)).alloc (.map #[] 0)).alloc (.cells #[.map (some (w.heap.size + 1 + 1))] 131)).alloc (.cells #[.func (.func 79) #[] #[.pointer (some ⟨w.heap.size + 1 + 1 + 1, 0, none⟩), .pointer (some ⟨w.heap.size, 0, none⟩), .pointer (some ⟨w.heap.size + 1, 0, none⟩), .pointer (some ⟨w.heap.size + 1 + 1 + 1 + 1, 0, none⟩)]] 132))).alloc (.cells (madeCells #[Value.int .i32 0] n) 21) from ⟨_, rfl⟩)
  go_wp2_with fail
  obtain ⟨W, hW⟩ := HW.out
  rw [← hW]
  obtain ⟨W1, hW1⟩ : ∃ W1, W1 = w.alloc (.cells #[.int .i64 k, .int .i64 1, .slice aa n ca, .slice ab n cb] 27) := ⟨_, rfl⟩
  rw [← hW1] at hW
  obtain ⟨W2, hW2⟩ : ∃ W2, W2 = W1.alloc (.cells #[.int .i64 mst] 3) := ⟨_, rfl⟩
  rw [← hW2] at hW
  obtain ⟨W3, hW3⟩ : ∃ W3, W3 = W2.alloc (.map #[] 0) := ⟨_, rfl⟩
  rw [← hW3] at hW
  obtain ⟨W4, hW4⟩ : ∃ W4, W4 = W3.alloc (.cells #[.map (some (w.heap.size + 1 + 1))] 131) := ⟨_, rfl⟩
  rw [← hW4] at hW
  obtain ⟨W5, hW5⟩ : ∃ W5, W5 = W4.alloc (.cells #[.func (.func 79) #[] #[.pointer (some ⟨w.heap.size + 1 + 1 + 1, 0, none⟩), .pointer (some ⟨w.heap.size, 0, none⟩), .pointer (some ⟨w.heap.size + 1, 0, none⟩), .pointer (some ⟨w.heap.size + 1 + 1 + 1 + 1, 0, none⟩)]] 132) := ⟨_, rfl⟩
  rw [← hW5] at hW
  obtain ⟨M, hM⟩ : ∃ M, M = w.heap.size := ⟨_, rfl⟩
  rw [← hM] at hW4 hW5 HX HAC hB ⊢
  have s1 : W1.heap.size = M + 1 := by rw [hW1, size_alloc', hM]
  have s2 : W2.heap.size = M + 1 + 1 := by rw [hW2, size_alloc', s1]
  have s3 : W3.heap.size = M + 1 + 1 + 1 := by rw [hW3, size_alloc', s2]
  have s4 : W4.heap.size = M + 1 + 1 + 1 + 1 := by rw [hW4, size_alloc', s3]
  have s5 : W5.heap.size = M + 1 + 1 + 1 + 1 + 1 := by rw [hW5, size_alloc', s4]
  have a1 : ∀ q, q < M + 1 → W.heap[q]? = W1.heap[q]? := fun q hq => by
    rw [hW, Below.heap_alloc _ _ _ (by omega), hW5, Below.heap_alloc _ _ _ (by omega), hW4, Below.heap_alloc _ _ _ (by omega), hW3, Below.heap_alloc _ _ _ (by omega), hW2, Below.heap_alloc _ _ _ (by omega)]
  have t0 : W.heap[M]? = some (.cells #[.int .i64 k, .int .i64 1, .slice aa n ca, .slice ab n cb] 27 (0, 0)) := by
    rw [a1 M (by omega), hW1, hM]; exact heap_alloc_new _ _
  have t1 : W.heap[M + 1]? = some (.cells #[.int .i64 mst] 3 (0, 0)) := by
    rw [hW, Below.heap_alloc _ _ _ (by omega), hW5, Below.heap_alloc _ _ _ (by omega), hW4, Below.heap_alloc _ _ _ (by omega), hW3, Below.heap_alloc _ _ _ (by omega), hW2, ← s1]; exact heap_alloc_new _ _
  have t3 : W.heap[M + 1 + 1 + 1]? = some (.cells #[.map (some (M + 1 + 1))] 131 (0, 0)) := by
    rw [hW, Below.heap_alloc _ _ _ (by omega), hW5, Below.heap_alloc _ _ _ (by omega), hW4, ← s3]; exact heap_alloc_new _ _
  have t4 : W.heap[M + 1 + 1 + 1 + 1]? = some (.cells #[.func (.func 79) #[] #[.pointer (some ⟨M + 1 + 1 + 1, 0, none⟩), .pointer (some ⟨M, 0, none⟩), .pointer (some ⟨M + 1, 0, none⟩), .pointer (some ⟨M + 1 + 1 + 1 + 1, 0, none⟩)]] 132 (0, 0)) := by
    rw [hW, Below.heap_alloc _ _ _ (by omega), hW5]
    have := heap_alloc_new W4 (.cells #[.func (.func 79) #[] #[.pointer (some ⟨M + 1 + 1 + 1, 0, none⟩), .pointer (some ⟨M, 0, none⟩), .pointer (some ⟨M + 1, 0, none⟩), .pointer (some ⟨M + 1 + 1 + 1 + 1, 0, none⟩)]] 132)
    rwa [s4] at this
  have t2 : W.ownsMap Tryd.prog 134 (plainElem Tryd.prog 21) (M + 1 + 1) 0 (.map [] : DataW Unit) := by
    rw [hW, hW5, hW4, hW3, ← s2]
    exact (((World.ownsMap_made _ _ _ _).alloc _).alloc _).alloc _
  have hbel : Below M w W := by
    rw [hW, hW5, hW4, hW3, hW2, hW1]
    refine Below.alloc (Below.alloc (Below.alloc (Below.alloc (Below.alloc (Below.alloc (Below.refl _ _) (by omega) _) ?_ _) ?_ _) ?_ _) ?_ _) ?_ _
    all_goals (simp only [size_alloc']; omega)
  have HL0 := Lib.hid (show Lst W M 21 (.slice (some ⟨M + 1 + 1 + 1 + 1 + 1, 0, none⟩) n n) (tw n (fun i => if i < 0 then cls A 0 i else 0)) by
    have h1 := Lst.made W5 M 21 (.int .i32 0) n (by omega) (by unfold maxLen; omega)
    rw [tw_rep, s5, ← hW] at h1
    exact h1)
  have HCTX := Lib.hid (show Ctx W (M + 1 + 1) (M + 1 + 1 + 1) M (M + 1) (M + 1 + 1 + 1 + 1) k mst (.slice aa n ca) (.slice ab n cb) from ⟨t3, t0, t1, t4⟩)
  have HMAP := Lib.hid t2
  have HBEL := Lib.hid hbel
  have HWS := Lib.hid (show M + 1 + 1 + 1 + 1 + 1 < W.heap.size by rw [hW, size_alloc', s5]; omega)
  clear hW hW1 hW2 hW3 hW4 hW5 s1 s2 s3 s4 s5 a1 t0 t1 t2 t3 t4 hbel HW hst hmm hmf hmk
  have HMM := Lib.hid hM
  clear hM
  go_loopw [20] (fun s20 wr => ∃ s, s ≤ n ∧ s20 = .int .i64 s ∧ Lst wr M 21 (.slice (some ⟨M + 1 + 1 + 1 + 1 + 1, 0, none⟩) n n) (tw n (fun i => if i < s then cls A 0 i else 0)) ∧ Below (M + 1 + 1 + 1 + 1 + 1) W wr) (fun s20 _ => 1000010 - (intOf s20).toNat)
  case atStart => exact ⟨0, Nat.zero_le _, rfl, HL0.out, Below.refl _ _⟩
  case round =>
    obtain ⟨s, hs, rfl, hlst, hb⟩ := hrel
    have HL := Lib.hid hlst
    have HB := Lib.hid hb
    clear hlst hb HL0
    by_cases hlt : s < n
    · have h1 := HCA.out.1 (by omega)
      obtain ⟨rfl, hba⟩ := h1
      have cA := ((HBEL.out.trans (HB.out.mono (by omega))).cell (p := ⟨ba, oa + s, none⟩) (by show ba < M; omega)).trans (HCA.out.2 s hlt)
      have lA := World.block_lt_of_cell? _ _ cA
      rw [HACC.out s hlt] at cA
      have c7 := HL.out.cellOf (i := s) (by rw [tw_length]; exact hlt)
      rw [tw_get, if_neg (Nat.lt_irrefl s)] at c7
      have f7 := HL.out.free s
      have l7 := World.block_lt_of_cell? _ _ c7
      have hcl : cls A 0 s = if A.acc s = true then 1 else 0 := rfl
      obtain ⟨u, hu⟩ : ∃ u, u = A.acc s := ⟨_, rfl⟩
      rw [← hu] at cA hcl
      have HST := Lib.hid (show ∀ i, (if i < s + 1 then cls A 0 i else 0) = if i = s then cls A 0 s else if i < s then cls A 0 i else 0 from fun i => by
        by_cases e : i = s
        · subst e; simp
        · have : (i < s + 1) = (i < s) := by apply propext; constructor <;> intro h <;> omega
          simp [e, this])
      clear hu hba
      cases u with
      | true =>
        have HCL := Lib.hid hcl
        clear hcl
        go_wp2_with fail
        go_roundw
        case rel =>
          have h1 := HL.out.set (i := s) (by rw [tw_length]; exact hlt) (.int .i32 ((1 : Nat) : Int))
          rw [tw_set] at h1
          refine ⟨s + 1, hlt, by go_num, ?_, HB.out.setCell (p := ⟨M + 1 + 1 + 1 + 1 + 1, s, none⟩) (Nat.le_refl _) _⟩
          rw [tw_congr (S := fun i => if i = s then 1 else if i < s then cls A 0 i else 0) (fun i _ => by rw [HST.out i, HCL.out]; simp)]
          exact h1
        case measure => simp [intOf]; omega
      | false =>
        have HCL := Lib.hid hcl
        clear hcl
        go_wp2_with fail
        go_roundw
        case rel =>
          refine ⟨s + 1, hlt, by go_num, ?_, HB.out⟩
          rw [tw_congr (S := fun i => if i < s then cls A 0 i else 0) (fun i _ => by
            rw [HST.out i, HCL.out]
            by_cases e : i = s
            · simp [e]
            · simp [e])]
          exact HL.out
        case measure => simp [intOf]; omega
    · obtain rfl : n = s := by omega
      have HG := Lib.hid (show w.grownBy wr none from below_none (by rw [← HMM.out]; exact HBEL.out.trans (HB.out.mono (by omega))))
      have hc : Ctx wr (M + 1 + 1) (M + 1 + 1 + 1) M (M + 1) (M + 1 + 1 + 1 + 1) k mst (.slice aa n ca) (.slice ab n cb) :=
        ⟨by rw [HB.out.block _ (by omega)]; exact HCTX.out.box2, by rw [HB.out.block _ (by omega)]; exact HCTX.out.box3, by rw [HB.out.block _ (by omega)]; exact HCTX.out.box4, by rw [HB.out.block _ (by omega)]; exact HCTX.out.box5⟩
      have hm : wr.ownsMap Tryd.prog 134 (plainElem Tryd.prog 21) (M + 1 + 1) 0 (.map [] : DataW Unit) := by
        obtain ⟨es, clock, h1, h2⟩ := HMAP.out
        exact ⟨es, clock, (HB.out.block _ (by omega)).trans h1, h2⟩
      have hb0 := HBEL.out.trans (HB.out.mono (show M ≤ M + 1 + 1 + 1 + 1 + 1 by omega))
      have k5 := cells_get hc.box5 0
      simp at k5
      have lk5 := lt_of_block hc.box5
      have HRC := Lib.hid (show Calls Tryd.prog 79 #[.slice (some ⟨M + 1 + 1 + 1 + 1 + 1, 0, none⟩) n n, .int .i64 0, .pointer (some ⟨M + 1 + 1 + 1, 0, none⟩), .pointer (some ⟨M, 0, none⟩), .pointer (some ⟨M + 1, 0, none⟩), .pointer (some ⟨M + 1 + 1 + 1 + 1, 0, none⟩)] wr fun e w' =>
          ∃ (av : Option Addr) (nv cv : Nat), e = .returned (.tuple #[.slice av nv cv, .bool (decide (TidyAuto.most A ≤ mst))]) ∧ wr.grownBy w' (some (M + 1 + 1)) ∧ (TidyAuto.most A ≤ mst → Lst w' M 21 (.slice av nv cv) (tw A.n (cls A (TidyAuto.stop A + 1)))) from
        HREC.out wr (.slice (some ⟨M + 1 + 1 + 1 + 1 + 1, 0, none⟩) n n) M M (M + 1 + 1) (M + 1 + 1 + 1) M (M + 1) (M + 1 + 1 + 1 + 1) k 0 (.slice aa n ca) ab cb (.map []) (by rw [← HNN.out]; exact hc) (by rw [← HNN.out]; exact (HX.out _ hb0).mono hB) (by omega) hm
          (by rw [← HNN.out]; have h1 := HL.out; rw [tw_congr (S := cls A 0) (fun i hi => if_pos hi)] at h1; exact h1) (by have := hb0.size; have := HMM.out; omega))
      have HB0 := Lib.hid hb0
      clear hc hm hb0
      go_wp2_with (go_at_call 79; refine HRC.out.mono ?_; rintro e w3 ⟨av3, nv3, cv3, rfl, hg3, hl3⟩; have HG3 := Lib.hid hg3; have HL3 := Lib.hid hl3; clear hg3 hl3)
      refine bodyPost_ret (v := .tuple #[.slice av3 nv3 cv3, .bool (decide (TidyAuto.most A ≤ mst))]) (by simp [results, Tryd.results72, go_sem]) rfl ⟨av3, nv3, cv3, rfl, ?_, ?_⟩
      rw [← HMM.out]
      exact HB0.out.grown HG3.out (by have := HB0.out.size; have := HMM.out; omega) (fun q e => by cases e; omega)
      rw [← HMM.out, HNN.out]
      exact HL3.out
end Go.Proofs.YtaimealknkhfbaaDoor.ImplClassesOf
