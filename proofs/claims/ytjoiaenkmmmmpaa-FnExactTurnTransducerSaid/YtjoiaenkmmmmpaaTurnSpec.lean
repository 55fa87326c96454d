
/- What the model's function that turns a transducer hands back.
   Conditions: the transducer is read as XEdg's text says, and is valid. -/
import Derived.Test.YtjoiaenkmmmmpaaTurnImpl
import Derived.Deep.RegionHeld3
import Derived.Deep.DrawnRows
import Derived.Deep.RegionLaw
namespace Go.Proofs.Ytjoiaenkmmmmpaa.TurnSpec
set_option linter.unusedVariables false
set_option linter.unusedSimpArgs false
set_option maxRecDepth 100000
open Go.RowKit Mem Copy Rel Heap MarkRow Edg EdgCopy EdgEq TrHeap TrLawKit TrValid TrImplValid TurnImpl
attribute [local go_sem ↓] Go.wp_at_zero Go.wp_at_succ

/-- The law for appending a list that is another's, at a step of a region that draws its order. -/
theorem step_pushs {P : Program} {w : World} {ops : Array Oper} {o : Oper} {a : Act} {K : Act → World → Prop} {Q : Exit → Act → World → Prop} {E : Prop} (hgd : o.guard = none) (s x : Operand) (t : TypeId)
    (ho : o.op = .call { callee := .builtin .append, args := #[s, x], argTypes := #[t, t] })
    (e : TypeId) (z : Value) (bytes : Nat) (ht : P.underlying t = some (.slice e)) (hinfo : (P.info? e).map (fun i => (i.zero, i.size, i.bytes)) = some (some z, 1, bytes)) (hzs : z.cells.size = 1) (hby : bytes ≤ 24)
    (B : Nat) (v : Value) (xs : List Value) (hown : Lst w B e v xs) (hB : B ≤ w.heap.size) (news : List Value) (h1 : ∀ u ∈ news, u.oneCell' = true) (hlen : xs.length + news.length ≤ 100000000) (hs : a.eval s = v) (ad : Addr) (m c : Nat) (hx : a.eval x = .slice (some ad) m c) (hm : news.length = m) (hm0 : 0 < m)
    (hnews : ∀ j u, news[j]? = some u → w.cell? (ad.add j) = some u)
    (h : ∀ v' w', Lst w' B e v' (xs ++ news) → w.grownBy w' v.ownBlock → K (a.put o.dst v') w') :
    if Region.wanted o (yielded ops a.tmps) = true then Oper.wp P o a w K Q else E := by
  obtain ⟨i, hi, hz, hsize, hbytes⟩ := info_parts hinfo
  refine step_append_lies (P := P) (w := w) hgd s x t ho B e i z 1 bytes ht hi hz hsize hbytes hzs (by decide) v xs.length xs hs hown ad m c news hx (by rw [hm, Nat.mul_one]) hnews h1 hm0 (by unfold maxLen; omega) ?_ hB _ rfl ?_
  · have : (xs.length + m) * bytes ≤ 100000000 * 24 := Nat.mul_le_mul (by omega) hby
    omega
  · intro g cap w' hown' hg hat hgl
    refine h _ w' ?_ hg
    unfold Lst
    rw [List.length_append, hm]
    exact hown'

abbrev Z3 : Obj := .cells #[Value.int .i64 0, .slice none 0 0, .slice none 0 0] 30
abbrev Kp (w W : World) : Prop := Below (w.heap.size + 1) (w.alloc Z3) W
section
variable {w W : World}
theorem Kp.size (h : Kp w W) : w.heap.size + 1 ≤ W.heap.size := by have := Below.size h; rw [size_alloc'] at this; exact this
theorem Kp.base (h : Kp w W) : Below w.heap.size w W := (base_box (Below.refl _ w) _).trans (Below.mono h (by omega))
theorem Kp.res (h : Kp w W) : W.heap[w.heap.size]? = some (.cells #[Value.int .i64 0, .slice none 0 0, .slice none 0 0] 30 (0, 0)) := by
  rw [Below.block h _ (by omega)]; exact heap_alloc_new _ _
theorem Kp.cell {p : Addr} (h : Kp w W) (hp : p.block < w.heap.size) : W.cell? p = w.cell? p := (Kp.base h).cell hp
theorem Kp.step {W' : World} (h : Kp w W) (hb : Below W.heap.size W W') : Kp w W' := Below.trans h (hb.mono (Kp.size h))
end
theorem apartE {w : World} {B : Nat} {v : Value} {es : List E} {k : Nat} {c : Array Value} {t : TypeId} {r : Nat × Nat} (h : LstE w B v es) (hb : w.heap[k]? = some (.cells c t r)) (ht : t ≠ 50) : v.ownBlock ≠ some k := by
  intro e
  rcases h.2 with ⟨rfl, -⟩ | ⟨g, cap, cur, rfl, hbg, hh, -⟩
  · cases e
  · cases e
    rw [hh] at hb
    cases hb
    exact ht rfl
theorem apartL {w : World} {B B' : Nat} {t : TypeId} {v v' : Value} {xs : List Value} {es : List E} (h : Lst w B t v xs) (h' : LstE w B' v' es) (ht : t ≠ 50) (k : Nat) (e : v'.ownBlock = some k) : v.ownBlock ≠ some k := by
  rcases h'.2 with ⟨rfl, -⟩ | ⟨g, cap, cur, rfl, hbg, hh, -⟩
  · cases e
  · cases e
    exact block_apart h hh (fun e => ht e)

/-- A transducer that is put together in the block ob. -/
structure BldT (w : World) (B ob : Nat) (s : Int) (va vn : Value) (A : List Bool) (es : List E) : Prop where
  acc : Lst w B 4 va (A.map Value.bool)
  edg : LstE w B vn es
  at_ : w.heap[ob]? = some (.cells #[.int .i64 s, va, vn] 30 (0, 0))
  obB : B ≤ ob
section
variable {w w' : World} {B ob : Nat} {s : Int} {va vn vn' : Value} {A : List Bool} {es : List E} {x : E}
theorem BldT.lt (h : BldT w B ob s va vn A es) : ob < w.heap.size := lt_of_block h.at_
theorem BldT.below (h : BldT w B ob s va vn A es) (hb : Below w.heap.size w w') : BldT w' B ob s va vn A es :=
  ⟨h.acc.below hb, h.edg.below hb, (hb.block ob h.lt).trans h.at_, h.obB⟩
theorem BldT.alloc (h : BldT w B ob s va vn A es) (o : Obj) : BldT (w.alloc o) B ob s va vn A es := h.below ((Below.refl _ _).alloc (Nat.le_refl _) _)
theorem BldT.obE (h : BldT w B ob s va vn A es) (hp : PushedE w w' B vn vn' es x) : w'.heap[ob]? = some (.cells #[.int .i64 s, va, vn] 30 (0, 0)) := by
  rw [hp.grow.block ob h.lt fun e => apartE h.edg h.at_ (by decide) e.symm]; exact h.at_
theorem BldT.push (h : BldT w B ob s va vn A es) (hp : PushedE w w' B vn vn' es x) : BldT (w'.setCell ⟨ob, 2, none⟩ vn') B ob s va vn' A (es ++ [x]) := by
  have hob := h.obE hp
  have ha : Lst w' B 4 va (A.map Value.bool) := h.acc.grown hp.grow fun k hk => apartL h.acc h.edg (by decide) k hk
  exact ⟨ha.setOther (block_apart ha hob (by decide)) _, hp.lst.setOther (apartE hp.lst hob (by decide)) _, blk_set hob, h.obB⟩
theorem BldT.boxed {Z : Nat} {a b c : Value} (hz : w.heap[Z]? = some (.cells #[a, b, c] 30 (0, 0))) (hB : B ≤ Z) (hl : Lst w B 4 va (A.map Value.bool)) : BldT (put3 w Z (.int .i64 s) va (.slice none 0 0)) B Z s va (.slice none 0 0) A [] := by
  have p0 := blk_set (i := 0) (u := .int .i64 s) hz
  have p1 := blk_set (i := 1) (u := va) p0
  have p2 := put3_block (a := .int .i64 s) (b := va) (c := .slice none 0 0) hz
  refine ⟨?_, LstE.nil _ _, p2, hB⟩
  have h0 := hl.setOther (a := ⟨Z, 0, none⟩) (block_apart hl hz (by decide)) (.int .i64 s)
  have h1 := h0.setOther (a := ⟨Z, 1, none⟩) (block_apart h0 p0 (by decide)) va
  exact h1.setOther (a := ⟨Z, 2, none⟩) (block_apart h1 p1 (by decide)) (.slice none 0 0)
theorem BldT.new (hl : Lst w B 4 va (A.map Value.bool)) (hB : B ≤ w.heap.size) : BldT (w.alloc (.cells #[.int .i64 s, va, .slice none 0 0] 30)) B w.heap.size s va (.slice none 0 0) A [] :=
  ⟨hl.alloc _, LstE.nil _ _, heap_alloc_new _ _, hB⟩
end

/-- What a list of truth values holds, cell by cell. -/
theorem news_bools {W : World} {B : Nat} {xs : List Bool} {ba oa n ca : Nat} (h : Bools W B (.slice (some ⟨ba, oa, none⟩) n ca) xs) (h0 : 0 < xs.length) : ∀ j u, (xs.map Value.bool)[j]? = some u → W.cell? ((⟨ba, oa, none⟩ : Addr).add j) = some u := by
  intro j u hj
  obtain ⟨a', b', o', c', e, -, he, hc⟩ := h
  obtain ⟨e1, -⟩ := he h0
  injection e with e _ _
  rw [e1] at e
  injection e with e
  injection e with e2 e3
  subst e2 e3
  have hjl : j < xs.length := by
    apply Classical.byContradiction; intro h
    rw [List.getElem?_eq_none (by rw [List.length_map]; omega)] at hj; cases hj
  rw [List.getElem?_map, List.getElem?_eq_getElem hjl] at hj
  have hj' := Option.some.inj hj
  have this : _ = some (Value.bool (xs.getD j false)) := hc j hjl
  rw [show xs.getD j false = xs[j] from by simp [List.getD, hjl]] at this
  rw [← hj']
  have ea : (⟨ba, oa, none⟩ : Addr).add j = ⟨ba, oa + j, none⟩ := by unfold Addr.add; split <;> simp_all
  rw [ea]
  exact this

set_option maxHeartbeats 8000000 in
theorem turnedP (t : T) (hok : okT t = true) (va vn : Value) (bp : Nat) (w : World) (B : Nat) (h : TrPtr w B bp t va vn) (hB : B ≤ w.heap.size) (hbp : bp < w.heap.size) :
    Calls Try.prog 47 #[.pointer (some ⟨bp, 0, none⟩)] w fun e w' => ∃ ua un, e = .returned (.agg #[.int .i64 t.start, ua, un]) ∧ BuiltT w' w.heap.size ua un t.accept (t.edges.map flipE) ∧ Below w.heap.size w w' := by
  obtain ⟨hn1, hn2, hq, -, -, -⟩ := ok_parts hok
  obtain ⟨⟨c0, c1, c2, -⟩, hacc, hed⟩ := h
  obtain ⟨st, ta, te⟩ := t
  simp only at hn1 hn2 hq hacc hed c0 ⊢
  have HFT := Lib.hid (show ∀ i, i < te.length → (te.getD i noE).Fits by obtain ⟨_, _, _, _, _, _, _, hc⟩ := hed; exact fun i hi => (hc i hi).2)
  have HAC := Lib.hid (fun W (hb : Kp w W) => (show Bools W B va ta from hacc.below (Kp.base hb) hB))
  obtain ⟨ab, bb, ob, cb, rfl, hmb, hbb, hcb⟩ := hed
  obtain ⟨q, hqq⟩ : ∃ q, q = te.length := ⟨_, rfl⟩
  rw [← hqq] at hmb hbb hcb hq c2
  have HQ := Lib.hid hqq
  have HC := Lib.hid hcb
  have HBB := Lib.hid hB
  obtain ⟨aa, ba, oa, ca, rfl, -, haa, -⟩ := hacc
  obtain ⟨rfl, hab⟩ := haa (by omega)
  obtain ⟨n, hnn⟩ : ∃ n, n = ta.length := ⟨_, rfl⟩
  rw [← hnn] at hn1 hn2 HAC c1
  have HNN := Lib.hid hnn
  clear hqq hnn hcb hmb haa hok
  have HPB := Lib.hid (show ∀ W, Kp w W → W.cell? ⟨bp, 0, none⟩ = some (.int .i64 st) ∧ W.cell? ⟨bp, 1, none⟩ = some (.slice (some ⟨ba, oa, none⟩) n ca) ∧ W.cell? ⟨bp, 2, none⟩ = some (.slice ab q cb) from fun W hb =>
    ⟨(Kp.cell hb (p := ⟨bp, 0, none⟩) hbp).trans c0, (Kp.cell hb (p := ⟨bp, 1, none⟩) hbp).trans c1, (Kp.cell hb (p := ⟨bp, 2, none⟩) hbp).trans c2⟩)
  have HC2 := Lib.hid (show ∀ W, Kp w W → W.cell? ⟨bp, 0, none⟩ = some (.int .i64 st) ∧ W.cell? ⟨bp, 1, none⟩ = some (.slice (some ⟨ba, oa, none⟩) n ca) from fun W hW => ⟨(HPB.out W hW).1, (HPB.out W hW).2.1⟩)
  have HNEW := Lib.hid (fun W (hW : Kp w W) => news_bools (HAC.out W hW) (by rw [← HNN.out]; omega))
  clear c0 c1 c2
  have HK1 := Lib.hid (show Kp w (((w.alloc Z3).alloc (.cells #[] 4)).drew) from ((Below.refl _ _).alloc (by simp) _).drew)
  have HL1 := Lib.hid (show Lst (((w.alloc Z3).alloc (.cells #[] 4)).drew) (w.heap.size + 1) 4 (.slice (some ⟨w.heap.size + 1, 0, none⟩) 0 0) [] from by
    have := Lst.empty (w.alloc Z3) (w.heap.size + 1) 4 (by simp)
    have e : (w.alloc Z3).heap.size = w.heap.size + 1 := size_alloc' _ _
    rw [e] at this
    exact this)
  have HK2 := Lib.hid (show Kp w ((((w.alloc Z3).alloc (.cells #[] 4)).alloc Z3).drew) from (((Below.refl _ _).alloc (by simp) _).alloc (by simp) _).drew)
  have HL2 := Lib.hid (show Lst ((((w.alloc Z3).alloc (.cells #[] 4)).alloc Z3).drew) (w.heap.size + 1) 4 (.slice (some ⟨w.heap.size + 1, 0, none⟩) 0 0) [] from by
    have := Lst.empty (w.alloc Z3) (w.heap.size + 1) 4 (by simp)
    have e : (w.alloc Z3).heap.size = w.heap.size + 1 := size_alloc' _ _
    rw [e] at this
    exact Lst.alloc this _)
  have HK3 := Lib.hid (show Kp w ((((w.alloc Z3).alloc Z3).alloc (.cells #[] 4)).drew) from (((Below.refl _ _).alloc (by simp) _).alloc (by simp) _).drew)
  have HL3 := Lib.hid (show Lst ((((w.alloc Z3).alloc Z3).alloc (.cells #[] 4)).drew) (w.heap.size + 1) 4 (.slice (some ⟨w.heap.size + 1 + 1, 0, none⟩) 0 0) [] from by
    have := Lst.empty ((w.alloc Z3).alloc Z3) (w.heap.size + 1) 4 (by simp)
    have e : ((w.alloc Z3).alloc Z3).heap.size = w.heap.size + 1 + 1 := by rw [size_alloc', size_alloc']
    rw [e] at this
    exact this)
  have HZ2 := Lib.hid (show ∀ w5, World.grownBy ((((w.alloc Z3).alloc (.cells #[] 4)).alloc Z3).drew) w5 (Value.slice (some ⟨w.heap.size + 1, 0, none⟩) 0 0).ownBlock → w5.heap[w.heap.size + 1 + 1]? = some (.cells #[Value.int .i64 0, .slice none 0 0, .slice none 0 0] 30 (0, 0)) from fun w5 hg => by
    have e : ((w.alloc Z3).alloc (.cells #[] 4)).heap.size = w.heap.size + 1 + 1 := by rw [size_alloc', size_alloc']
    have h0 := heap_alloc_new ((w.alloc Z3).alloc (.cells #[] 4)) Z3
    rw [e] at h0
    rw [hg.block (w.heap.size + 1 + 1) (by show _ < ((((w.alloc Z3).alloc _).alloc _)).heap.size; rw [size_alloc', e]; omega) (fun e => by have e : some (w.heap.size + 1 + 1) = some (w.heap.size + 1) := e; injection e with e; omega)]
    exact h0)
  have HZ3 := Lib.hid (show ∀ w5, World.grownBy ((((w.alloc Z3).alloc Z3).alloc (.cells #[] 4)).drew) w5 (Value.slice (some ⟨w.heap.size + 1 + 1, 0, none⟩) 0 0).ownBlock → w5.heap[w.heap.size + 1]? = some (.cells #[Value.int .i64 0, .slice none 0 0, .slice none 0 0] 30 (0, 0)) from fun w5 hg => by
    have e : (w.alloc Z3).heap.size = w.heap.size + 1 := size_alloc' _ _
    have h0 := heap_alloc_new (w.alloc Z3) Z3
    rw [e] at h0
    rw [hg.block (w.heap.size + 1) (by show _ < ((((w.alloc Z3).alloc _).alloc _)).heap.size; rw [size_alloc', size_alloc', e]; omega) (fun e => by have e : some (w.heap.size + 1) = some (w.heap.size + 1 + 1) := e; injection e with e; omega)]
    exact (Below.heap_alloc _ _ _ (by rw [size_alloc', e]; omega)).trans h0)
  have HAL := Lib.hid (show (ta.map Value.bool).length = n by rw [List.length_map]; exact HNN.out.symm)
  have HON := Lib.hid (show ∀ u ∈ ta.map Value.bool, u.oneCell' = true from fun u hu => by obtain ⟨b, -, rfl⟩ := List.mem_map.1 hu; rfl)
  obtain ⟨q0, q1, q2⟩ := HPB.out (w.alloc Z3) (Below.refl _ _)
  have hlb : bp < (w.alloc Z3).heap.size := by rw [size_alloc']; omega
  go_enter Try.func47, Try.ntmps47
  go_upto_region 1 with fail
  go_cut [3] (fun v3 wx => ∃ (Z : Nat) (a5 : Option Addr) (c5 : Nat), v3 = .pointer (some ⟨Z, 0, none⟩) ∧ BldT wx (w.heap.size + 1) Z st (.slice a5 n c5) (.slice none 0 0) ta [] ∧ Kp w wx)
  case first =>
-- {fast
    go_region_held3 (fun w' => w'.cell? ⟨bp, 0, none⟩ = some (.int .i64 st) ∧ w'.cell? ⟨bp, 1, none⟩ = some (.slice (some ⟨ba, oa, none⟩) n ca))
      (first | go_keep | exact HC2.out _ HK5.out | exact HC2.out _ (((HK5.out.setCell (p := ⟨_, 0, none⟩) (Nat.le_succ _) _).setCell (p := ⟨_, 1, none⟩) (Nat.le_succ _) _).setCell (p := ⟨_, 2, none⟩) (Nat.le_succ _) _) | exact HC2.out _ (((HK5.out.setCell (p := ⟨_, 0, none⟩) (Nat.le_refl _) _).setCell (p := ⟨_, 1, none⟩) (Nat.le_refl _) _).setCell (p := ⟨_, 2, none⟩) (Nat.le_refl _) _))
      ((refine step_pushs rfl _ _ 22 (by rfl) 4 (.bool false) 1 Try.underlying22 info4 (by decide) (by decide) (w.heap.size + 1) _ [] (by first | exact HL1.out | exact HL2.out | exact HL3.out) (by first | exact Kp.size HK1.out | exact Kp.size HK2.out | exact Kp.size HK3.out) (ta.map Value.bool) HON.out (by rw [HAL.out]; simp; omega) (by rfl) ⟨ba, oa, none⟩ n ca (by rfl) HAL.out (by omega) (by first | exact HNEW.out _ HK1.out | exact HNEW.out _ HK2.out | exact HNEW.out _ HK3.out) ?_
        intro v5 w5 hl5 hg5; rw [List.nil_append] at hl5; obtain ⟨a5, n5, cp5, rfl, HN5⟩ := hl5.shape'; obtain rfl : n5 = n := (HN5.out.trans HAL.out); have HL5 := Lib.hid hl5; have HG5 := Lib.hid hg5; have HK5 : Hid (Kp w w5) := (by first | exact Lib.hid (below_grown HK1.out hg5 (Kp.size HK1.out) (fun q hq => HL1.out.ge hq)) | exact Lib.hid (below_grown HK2.out hg5 (Kp.size HK2.out) (fun q hq => HL2.out.ge hq)) | exact Lib.hid (below_grown HK3.out hg5 (Kp.size HK3.out) (fun q hq => HL3.out.ge hq))); obtain ⟨q60, q61, q62⟩ := HPB.out w5 HK5.out; have l6 : bp < w5.heap.size := (by have := Kp.size HK5.out; omega); first | (have o5 := HZ2.out w5 hg5; have q50 := (cell_of_block o5 0).1; have q51 := (cell_of_block o5 1).1; have q52 := (cell_of_block o5 2).1; have z50 := (cell_of_block o5 0).2; have z51 := (cell_of_block o5 1).2; have z52 := (cell_of_block o5 2).2; have l5 := lt_of_block o5; simp at q50 q51 q52; have HO5 := Lib.hid o5; clear o5) | (have o5 := HZ3.out w5 hg5; have q50 := (cell_of_block o5 0).1; have q51 := (cell_of_block o5 1).1; have q52 := (cell_of_block o5 2).1; have z50 := (cell_of_block o5 0).2; have z51 := (cell_of_block o5 1).2; have z52 := (cell_of_block o5 2).2; have l5 := lt_of_block o5; simp at q50 q51 q52; have HO5 := Lib.hid o5; clear o5) | skip; clear hl5 hg5))
    all_goals
      go_wp2_with fail
      go_meet
      first
        | exact ⟨_, _, _, rfl, BldT.new HL5.out (Kp.size HK5.out), Below.alloc HK5.out (Kp.size HK5.out) _⟩
        | exact ⟨_, _, _, rfl, BldT.boxed HO5.out (Nat.le_succ _) HL5.out, put3_below HK5.out (Nat.le_succ _)⟩
        | exact ⟨_, _, _, rfl, BldT.boxed HO5.out (Nat.le_refl _) HL5.out, put3_below HK5.out (Nat.le_refl _)⟩
-- }fast
  case rest =>
    clear q0 q1 q2 hlb HL1 HL2 HL3 HK1 HK2 HK3 HZ2 HZ3 HNEW HAC
    obtain ⟨Z, a5, c5, rfl, hbld, hk5⟩ := hcut
    have HD0 := Lib.hid hbld
    have HB0 := Lib.hid hk5
    clear hbld hk5
    go_wp2_with fail
    go_loopw [4] (fun i wr => ∃ (k : Nat) (vn : Value), k ≤ q ∧ i = .int .i64 k ∧ BldT wr (w.heap.size + 1) Z st (.slice a5 n c5) vn ta ((te.take k).map flipE) ∧ Kp w wr) (fun i _ => q - (intOf i).toNat)
    case atStart => exact ⟨0, _, Nat.zero_le _, rfl, HD0.out, HB0.out⟩
    case round =>
      obtain ⟨k, vn, hk, rfl, hbld, hbel⟩ := hrel
      have HD := Lib.hid hbld
      have HB := Lib.hid hbel
      obtain ⟨an, nn, cn, rfl, HNN5⟩ := hbld.edg.shape'
      have b3 := (HPB.out _ hbel).2.2
      clear hbld hbel HD0 HB0
      by_cases hlt : k < q
      · obtain rfl := (hbb (by omega)).1
        have hbB := (hbb (by omega)).2
        have h4 := ((HC.out k hlt).1).below (Kp.base HB.out) (by have := HBB.out; omega)
        obtain ⟨x, hx⟩ : ∃ x, x = te.getD k noE := ⟨_, rfl⟩
        rw [← hx] at h4
        have HX := Lib.hid (show (te.take (k + 1)).map flipE = (te.take k).map flipE ++ [flipE x] by rw [take_succ_getD te noE k (by rw [← HQ.out]; exact hlt), List.map_append, hx]; rfl)
        clear hbb hx
        obtain ⟨d0, d1, d2, d3⟩ := h4
        obtain ⟨xs, xd, xi, xo⟩ := x
        simp only at d0 d1 d2 d3
        have HD1 := Lib.hid (HD.out.alloc (boxE ⟨xs, xd, xi, xo⟩))
        have HB1 := Lib.hid (Kp.step HB.out ((Below.refl _ _).alloc (Nat.le_refl _) (boxE ⟨xs, xd, xi, xo⟩)))
        have HLEN := Lib.hid (show ((te.take k).map flipE).length ≤ 100000000 by rw [List.length_map, List.length_take]; omega)
        have hZl := HD.out.lt
        have e2 := (cell_of_block HD.out.at_ 2).1
        simp at e2
        go_wp2_with (at_builtin; refine wpList_pushE rfl _ _ rfl (w.heap.size + 1) (.slice an nn cn) _ (⟨xs, xd, xo, xi⟩ : E) HD1.out.edg (Kp.size HB1.out) HLEN.out rfl (wr.heap.size + 1) rfl (size_alloc' _ _) ?_; intro v5 w5 hp5; obtain ⟨a6, n6, c6, rfl, HN6⟩ := hp5.lst.shape'; have HD5 := Lib.hid (HD1.out.push hp5); have HB5 := Lib.hid (below_pushE HB1.out HD1.out.edg hp5 (Kp.size HB1.out)); have o5 := HD1.out.obE hp5; have q52 := (cell_of_block o5 2).1; have z52 := (cell_of_block o5 2).2; have l5 := lt_of_block o5; simp at q52; clear hp5 o5)
        go_roundw
        case rel => exact ⟨k + 1, _, by omega, by go_num, by rw [HX.out]; exact HD5.out, HB5.out.setCell (by have := HD.out.obB; show w.heap.size + 1 ≤ Z; omega) _⟩
        case measure => simp [intOf]; omega
      · obtain rfl : k = q := by omega
        have HLL := Lib.hid (show (te.take k).map flipE = te.map flipE by rw [List.take_of_length_le (by rw [← HQ.out]; exact Nat.le_refl _)])
        have hZl := HD.out.lt
        have e0 := (cell_of_block HD.out.at_ 0).1
        have e1 := (cell_of_block HD.out.at_ 1).1
        have e2 := (cell_of_block HD.out.at_ 2).1
        have r0 := (cell_of_block (Kp.res HB.out) 0).1
        have r1 := (cell_of_block (Kp.res HB.out) 1).1
        have r2 := (cell_of_block (Kp.res HB.out) 2).1
        have s0 := (cell_of_block (Kp.res HB.out) 0).2
        have s1 := (cell_of_block (Kp.res HB.out) 1).2
        have s2 := (cell_of_block (Kp.res HB.out) 2).2
        simp at e0 e1 e2 r0 r1 r2
        clear hbb
        go_wp2
        obtain ⟨g0, g1, g2⟩ := put3_cells (a := .int .i64 st) (b := .slice a5 n c5) (c := .slice an nn cn) (Kp.res HB.out)
        refine bodyPost_ret (v := .agg #[.int .i64 st, .slice a5 n c5, .slice an nn cn]) (by simp [results, Try.results47, go_sem, g0, g1, g2]) rfl ⟨.slice a5 n c5, .slice an nn cn, rfl, ?_, ?_⟩
        · refine BuiltT.mono (B := w.heap.size + 1) (BuiltT.put3 ⟨HD.out.acc, by have := HD.out.edg; rwa [HLL.out] at this, fits_flip HFT.out, by rw [List.length_map, ← HQ.out]; omega⟩ (by omega)) (by omega)
        · exact put3_below (Kp.base HB.out) (Nat.le_refl _)
theorem short_TurnTransducer (t : T) (hok : okT t = true) : t.accept.length ≤ 1000 ∧ (t.edges.map flipE).length ≤ 1000 := by
  obtain ⟨h1, h2, h3, -⟩ := ok_parts hok
  rw [List.length_map]
  exact ⟨by omega, by omega⟩
end Go.Proofs.Ytjoiaenkmmmmpaa.TurnSpec
