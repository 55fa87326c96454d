
/- What is appended: a list that is another's.
   Conditions: stated at each theorem. -/
import Derived.Test.YtcpcbmappcndcaaGreatDoorRB5
import Derived.Test.YtcpcbmappcndcaaGreatDoorRB8
import Derived.Test.YtcpcbmappcndcaaGreatDoorRB9
import Derived.Deep.RegionHeld3
import Derived.Deep.DrawnRows
import Derived.Deep.RegionLaw
namespace Go.Proofs.YtcpcbmappcndcaaGreatDoor.Push
set_option linter.unusedVariables false
set_option linter.unusedSimpArgs false
open Go.RowKit Mem Copy Heap

theorem tv_snoc (c : Nat) (T : Nat → Int) : tv c T ++ [Value.int .i64 (T c)] = tv (c + 1) T := by unfold tv; rw [List.range_succ, List.map_append]; rfl
/-- The law for appending a list that is another's. -/
theorem wpList_pushs {P : Program} {w : World} {ops : Array Oper} {rest : List Oper} {o : Oper} {a : Act} {Q : Exit → Act → World → Prop} (hgd : o.guard = none) (s x : Operand) (t : TypeId)
    (ho : o.op = .call { callee := .builtin .append, args := #[s, x], argTypes := #[t, t] })
    (e : TypeId) (z : Value) (bytes : Nat) (ht : P.underlying t = some (.slice e)) (hinfo : (P.info? e).map (fun i => (i.zero, i.size, i.bytes)) = some (some z, 1, bytes)) (hzs : z.cells.size = 1) (hby : bytes ≤ 24)
    (B : Nat) (v : Value) (xs : List Value) (hown : Lst w B e v xs) (hB : B ≤ w.heap.size) (news : List Value) (h1 : ∀ u ∈ news, u.oneCell' = true) (hlen : xs.length + news.length ≤ 100000000) (hs : a.eval s = v) (ad : Addr) (m c : Nat) (hx : a.eval x = .slice (some ad) m c) (hm : news.length = m)
    (hnews : ∀ j u, news[j]? = some u → w.cell? (ad.add j) = some u)
    (h : ∀ v' w', Lst w' B e v' (xs ++ news) → w.grownBy w' v.ownBlock → wpList P ops Q rest (a.put o.dst v') w') : wpList P ops Q (o :: rest) a w := by
  obtain ⟨i, hi, hz, hsize, hbytes⟩ := info_parts hinfo
  refine wpList_append_own_at (P := P) _ hgd s x t ho B e i z 1 bytes ht hi hz hsize hbytes hzs (by decide) v xs.length xs hs hown ad m c news hx (by rw [hm, Nat.mul_one]) hnews h1 (by unfold maxLen; omega) ?_ hB ?_
  · have : (xs.length + m) * bytes ≤ 100000000 * 24 := Nat.mul_le_mul (by omega) hby
    omega
  · intro v' w' hown' hg _ _
    refine h v' w' ?_ hg
    unfold Lst
    rw [List.length_append, hm]
    exact hown'

end Go.Proofs.YtcpcbmappcndcaaGreatDoor.Push
/- The model's copy of a relation.
   Conditions: stated at each theorem. -/
namespace Go.Proofs.YtcpcbmappcndcaaGreatDoor.CopyI
set_option linter.unusedVariables false
set_option linter.unusedSimpArgs false
set_option maxRecDepth 100000
open Go.RowKit Mem Copy Rel Valid Heap Push Columns Bld TidyAuto TidyRight SpecRight ToL SpecTidyRel
attribute [local go_sem ↓] Go.wp_at_zero Go.wp_at_succ

theorem heap_last (w : World) (o : Obj) : (w.alloc o).heap[w.heap.size]? = some o := by
  show (w.heap.push o)[w.heap.size]? = some o
  exact Array.getElem?_push_size
/-- A struct that is written into a place of its own. -/
theorem Bld.boxed {w : World} {B Z : Nat} {k st : Int} {va : Value} {accs : List Value} (hz : w.heap[Z]? = some (.cells #[Value.int .i64 0, .int .i64 0, .slice none 0 0, .slice none 0 0] 27 (0, 0))) (hB : B ≤ Z) (hl : Lst w B 4 va accs) :
    Bld ((((w.setCell ⟨Z, 0, none⟩ (.int .i64 k)).setCell ⟨Z, 1, none⟩ (.int .i64 st)).setCell ⟨Z, 2, none⟩ va).setCell ⟨Z, 3, none⟩ (.slice none 0 0)) B Z k st va (.slice none 0 0) [] [] accs := by
  have p0 := cells_set hz 0 (.int .i64 k)
  have p1 := cells_set p0 1 (.int .i64 st)
  have p2 := cells_set p1 2 va
  have p3 := cells_set p2 3 (.slice none 0 0)
  simp at p3
  refine ⟨Own.nil _ _ _, ?_, Lst.nil _ _ _, p3, hB⟩
  have h0 := hl.setOther (a := ⟨Z, 0, none⟩) (block_apart hl hz (by decide)) (.int .i64 k)
  have h1 := h0.setOther (a := ⟨Z, 1, none⟩) (block_apart h0 p0 (by decide)) (.int .i64 st)
  have h2 := h1.setOther (a := ⟨Z, 2, none⟩) (block_apart h1 p1 (by decide)) va
  exact h2.setOther (a := ⟨Z, 3, none⟩) (block_apart h2 p2 (by decide)) (.slice none 0 0)

/-- The law for appending a list that is another's, at a step of a region that draws its order. -/
theorem step_pushs {P : Program} {w : World} {ops : Array Oper} {o : Oper} {a : Act} {K : Act → World → Prop} {Q : Exit → Act → World → Prop} {E : Prop} (hgd : o.guard = none) (s x : Operand) (t : TypeId)
    (ho : o.op = .call { callee := .builtin .append, args := #[s, x], argTypes := #[t, t] })
    (e : TypeId) (z : Value) (bytes : Nat) (ht : P.underlying t = some (.slice e)) (hinfo : (P.info? e).map (fun i => (i.zero, i.size, i.bytes)) = some (some z, 1, bytes)) (hzs : z.cells.size = 1) (hby : bytes ≤ 24)
    (B : Nat) (v : Value) (xs : List Value) (hown : Lst w B e v xs) (hB : B ≤ w.heap.size) (news : List Value) (h1 : ∀ u ∈ news, u.oneCell' = true) (hlen : xs.length + news.length ≤ 100000000) (hs : a.eval s = v) (ad : Addr) (m c : Nat) (hx : a.eval x = .slice (some ad) m c) (hm : news.length = m) (hm0 : 0 < m)
    (hnews : ∀ j u, news[j]? = some u → w.cell? (ad.add j) = some u)
    (h : ∀ v' w', Lst w' B e v' (xs ++ news) → w.grownBy w' v.ownBlock → K (a.put o.dst v') w') :
    if Region.wanted o (yielded ops a.tmps) = true then Oper.wp P o a w K Q else E := by
  obtain ⟨i, hi, hz, hsize, hbytes⟩ := info_parts hinfo
  refine step_append_lies (P := P) (w := w) hgd s x t ho B e i z 1 bytes ht hi hz hsize hbytes hzs (by decide) v xs.length xs hs hown ad m c news hx (by rw [hm, Nat.mul_one]) hnews h1 hm0 (by unfold maxLen; omega) ?_ hB _ rfl ?_
  · have : (xs.length + m) * bytes ≤ 100000000 * 24 := Nat.mul_le_mul (by omega) hby
    omega
  · intro g cap w' hown' hg hat hgl
    refine h _ w' ?_ hg
    unfold Lst
    rw [List.length_append, hm]
    exact hown'

set_option maxHeartbeats 1000000 in
/-- a list of its own, of a list of numbers. -/
theorem ownI (xs : List Int) (v : Value) (w : World) (B0 : Nat) (h : Ints w B0 v xs) (hB : B0 ≤ w.heap.size) (h0 : 0 < xs.length) (hl : xs.length ≤ 1000) :
    Calls Tryz.prog 92 #[v] w fun e w' => ∃ a cap, e = .returned (.slice a xs.length cap) ∧ Lst w' w.heap.size 2 (.slice a xs.length cap) (xs.map (Value.int .i64)) ∧ Below w.heap.size w w' := by
  obtain ⟨a, b, o, cap, rfl, -, ha, hc⟩ := h
  obtain ⟨rfl, hb⟩ := ha h0
  obtain ⟨i, hi, hz, hsize, hbytes⟩ := info_parts info2
  have HC := Lib.hid hc
  obtain ⟨n, hn⟩ : ∃ n, n = xs.length := ⟨_, rfl⟩
  have HNN := Lib.hid hn
  rw [← hn] at h0 hl ⊢
  have HO := Lib.hid (show (w.alloc (.cells #[] 2)).ownsRow w.heap.size 2 1 (.slice (some ⟨w.heap.size, 0, none⟩) 0 0) 0 [] from World.ownsRow_made w #[] 0 (Nat.le_refl _) (by unfold maxLen; omega) rfl)
  have HNW := Lib.hid (show ∀ j u, (xs.map (Value.int .i64))[j]? = some u → (w.alloc (.cells #[] 2)).cell? ((⟨b, o, none⟩ : Addr).add j) = some u from fun j u hj => by
    have hadd : (⟨b, o, none⟩ : Addr).add j = ⟨b, o + j, none⟩ := by unfold Addr.add; split <;> simp_all
    obtain ⟨hj1, hj2⟩ := List.getElem?_eq_some_iff.1 hj
    have hj3 : j < xs.length := by simpa using hj1
    rw [hadd, World.cell?_of_block (w := w) (Below.heap_alloc _ _ _ (by show b < w.heap.size; omega)), HC.out j (by rw [← HNN.out]; rw [HNN.out]; exact hj3), ← hj2]
    simp [List.getD, hj3])
  have HLN := Lib.hid (show (xs.map (Value.int .i64)).length = n * 1 by rw [List.length_map, Nat.mul_one, HNN.out])
  have HON := Lib.hid (show ∀ u ∈ xs.map (Value.int .i64), u.oneCell' = true from fun u hu => by obtain ⟨y, -, rfl⟩ := List.mem_map.1 hu; rfl)
  have hbw : b < w.heap.size := by omega
  clear hc hn
  go_enter Tryz.func92, Tryz.ntmps92
  go_wp2_with (at_builtin; refine wpList_append_own_at (P := Tryz.prog) _ rfl _ _ 70 rfl w.heap.size 2 i (.int .i64 0) 1 8 Tryz.underlying70 hi hz hsize hbytes rfl (by decide) (.slice (some ⟨w.heap.size, 0, none⟩) 0 0) 0 [] rfl HO.out ⟨b, o, none⟩ n cap (xs.map (Value.int .i64)) rfl HLN.out HNW.out HON.out (by unfold maxLen; omega) (by omega) (by rw [size_alloc']; omega) ?_; intro v5 w5 ho hg _ hat; rw [Nat.zero_add, List.nil_append] at ho; have HLS := Lib.hid (show Lst w5 w.heap.size 2 v5 (xs.map (Value.int .i64)) from (by unfold Lst; rw [List.length_map, ← HNN.out]; exact ho)); obtain ⟨a5, n5, c5, rfl, HN5⟩ := HLS.out.shape'; have HG5 := Lib.hid hg; clear ho hat hg)
  have h5 : n5 = n := by rw [HN5.out, List.length_map, HNN.out]
  subst h5
  go_ret
  exact ⟨a5, c5, rfl, HLS.out, ((Below.refl _ _).alloc (Nat.le_refl _) _).grown HG5.out (by rw [size_alloc']; omega) (fun q e => by cases e; exact Nat.le_refl _)⟩

set_option maxHeartbeats 8000000 in
theorem copyI (r : R) (hok : okB r = true) (bp : Nat) (w : World) (B : Nat) (h : RelPtr w B bp r) (hB : B ≤ w.heap.size) (hbp : bp < w.heap.size) :
    Calls Tryz.prog 62 #[.pointer (some ⟨bp, 0, none⟩)] w fun e w' => ∃ va vn, e = .returned (.agg #[.int .i64 r.tapes, .int .i64 r.start, va, vn]) ∧ Built w' w.heap.size va vn r.accept r.next ∧ Below w.heap.size w w' := by
  have h1 := okL hok
  have ha0 : 0 < r.accept.length := Nat.lt_of_le_of_lt (Nat.zero_le _) h1.1.2.st
  have ha5 : r.accept.length ≤ 1000 := by have h2 := h1.2; have h3 : (toL r).acc.length = r.accept.length := rfl; omega
  have HROW := Lib.hid (show ∀ i, i < r.next.length → 0 < (r.next.getD i []).length ∧ (r.next.getD i []).length ≤ 1000 from fun i hi => by
    have h2 := h1.1.2.row i (by rw [← h1.1.2.len]; show i < (r.next.map _).length; rw [List.length_map]; exact hi)
    have h3 : ((toL r).nx.getD i []).length = (r.next.getD i []).length := by
      show ((r.next.map fun x => x.map Int.toNat).getD i []).length = _
      simp [List.getD, hi]
    have h4 := wide_cases h1.1.2.k0 h1.1.2.k3
    omega)
  have hn5 : r.next.length ≤ 1000 := by
    have h2 := h1.1.2.len
    have h3 : (toL r).nx.length = r.next.length := by show (r.next.map _).length = _; rw [List.length_map]
    have h4 := h1.2
    omega
  clear h1 hok
  obtain ⟨va, vn, c0, c1, c2, c3, hacc, hnx⟩ := h
  have HAC := Lib.hid (fun W (hb : Kp w W) => hacc.below hb.base hB)
  obtain ⟨V, hsl, hrows⟩ := hnx
  have HVR := Lib.hid (fun W (hb : Kp w W) q (hq : q < r.next.length) => (hrows q hq).below hb.base hB)
  have HVC := Lib.hid (fun W (hb : Kp w W) => hsl.below hb.base hB)
  obtain ⟨am, bm, om, cm, rfl, hmm, hma, hmc⟩ := hsl
  have HMC := Lib.hid (show ∀ W, Kp w W → ∀ q, q < r.next.length → W.cell? ⟨bm, om + q, none⟩ = some (V q) from fun W hW q hq => (Kp.cell hW (p := ⟨bm, om + q, none⟩) (by have := (hma (by omega)).2; show bm < w.heap.size; omega)).trans (hmc q hq))
  clear hmc
  obtain ⟨aa, ba, oa, ca, rfl, hna, haa, -⟩ := hacc
  obtain ⟨rfl, hab⟩ := haa ha0
  obtain ⟨k, hk⟩ : ∃ k, k = r.tapes := ⟨_, rfl⟩
  obtain ⟨st, hs⟩ : ∃ st, st = r.start := ⟨_, rfl⟩
  obtain ⟨n, hn⟩ : ∃ n, n = r.accept.length := ⟨_, rfl⟩
  obtain ⟨len, hlen⟩ : ∃ len, len = r.next.length := ⟨_, rfl⟩
  rw [← hlen] at hmm hma HVR HVC HROW c3 hn5 HMC
  rw [← hn] at ha0 ha5 hna c2
  rw [← hk] at c0 ⊢
  rw [← hs] at c1 ⊢
  have HNN := Lib.hid hn
  have HLEN := Lib.hid hlen
  have HMA := Lib.hid hma
  have HPB := Lib.hid (show ∀ W, Kp w W → W.cell? ⟨bp, 0, none⟩ = some (.int .i64 k) ∧ W.cell? ⟨bp, 1, none⟩ = some (.int .i64 st) ∧ W.cell? ⟨bp, 2, none⟩ = some (.slice (some ⟨ba, oa, none⟩) n ca) ∧ W.cell? ⟨bp, 3, none⟩ = some (.slice am len cm) from fun W hb =>
    ⟨(Kp.cell hb (p := ⟨bp, 0, none⟩) hbp).trans c0, (Kp.cell hb (p := ⟨bp, 1, none⟩) hbp).trans c1, (Kp.cell hb (p := ⟨bp, 2, none⟩) hbp).trans c2, (Kp.cell hb (p := ⟨bp, 3, none⟩) hbp).trans c3⟩)
  clear hn hlen hma hrows hk hs c0 c1 c2 c3
  have HC3 := Lib.hid (show ∀ W, Kp w W → W.cell? ⟨bp, 0, none⟩ = some (.int .i64 k) ∧ W.cell? ⟨bp, 1, none⟩ = some (.int .i64 st) ∧ W.cell? ⟨bp, 2, none⟩ = some (.slice (some ⟨ba, oa, none⟩) n ca) from fun W hW => ⟨(HPB.out W hW).1, (HPB.out W hW).2.1, (HPB.out W hW).2.2.1⟩)
  have HNEW := Lib.hid (show ∀ W, Kp w W → ∀ j u, (r.accept.map Value.bool)[j]? = some u → W.cell? ((⟨ba, oa, none⟩ : Addr).add j) = some u from fun W hW j u hj => by
    obtain ⟨a', b', o', c', e, -, he, hc⟩ := HAC.out _ hW
    obtain ⟨e1, -⟩ := he (by rw [← HNN.out]; exact ha0)
    injection e with e _ _
    rw [e1] at e
    injection e with e
    injection e with e2 e3
    subst e2 e3
    have hjl : j < r.accept.length := by
      apply Classical.byContradiction; intro h
      rw [List.getElem?_eq_none (by rw [List.length_map]; omega)] at hj; cases hj
    rw [List.getElem?_map, List.getElem?_eq_getElem hjl] at hj
    have hj' := Option.some.inj hj
    have this : _ = some (Value.bool (r.accept.getD j false)) := hc j hjl
    rw [show r.accept.getD j false = r.accept[j] from by simp [List.getD, hjl]] at this
    rw [← hj']
    have ea : (⟨ba, oa, none⟩ : Addr).add j = ⟨ba, oa + j, none⟩ := by simp [Addr.add]
    rw [ea]
    exact this)
  have HK1 := Lib.hid (show Kp w (((w.alloc (.cells #[Value.int .i64 0, .int .i64 0, .slice none 0 0, .slice none 0 0] 27)).alloc (.cells #[] 4)).drew) from ((Below.refl _ _).alloc (by simp) _).drew)
  have HL1 := Lib.hid (show Lst (((w.alloc (.cells #[Value.int .i64 0, .int .i64 0, .slice none 0 0, .slice none 0 0] 27)).alloc (.cells #[] 4)).drew) (w.heap.size + 1) 4 (.slice (some ⟨w.heap.size + 1, 0, none⟩) 0 0) [] from by
    have := Lst.empty (w.alloc (.cells #[Value.int .i64 0, .int .i64 0, .slice none 0 0, .slice none 0 0] 27)) (w.heap.size + 1) 4 (by simp)
    have e : (w.alloc (.cells #[Value.int .i64 0, .int .i64 0, .slice none 0 0, .slice none 0 0] 27)).heap.size = w.heap.size + 1 := size_alloc' _ _
    rw [e] at this
    exact this)
  have HK2 := Lib.hid (show Kp w ((((w.alloc (.cells #[Value.int .i64 0, .int .i64 0, .slice none 0 0, .slice none 0 0] 27)).alloc (.cells #[] 4)).alloc (.cells #[Value.int .i64 0, .int .i64 0, .slice none 0 0, .slice none 0 0] 27)).drew) from (((Below.refl _ _).alloc (by simp) _).alloc (by simp) _).drew)
  have HL2 := Lib.hid (show Lst ((((w.alloc (.cells #[Value.int .i64 0, .int .i64 0, .slice none 0 0, .slice none 0 0] 27)).alloc (.cells #[] 4)).alloc (.cells #[Value.int .i64 0, .int .i64 0, .slice none 0 0, .slice none 0 0] 27)).drew) (w.heap.size + 1) 4 (.slice (some ⟨w.heap.size + 1, 0, none⟩) 0 0) [] from by
    have := Lst.empty (w.alloc (.cells #[Value.int .i64 0, .int .i64 0, .slice none 0 0, .slice none 0 0] 27)) (w.heap.size + 1) 4 (by simp)
    have e : (w.alloc (.cells #[Value.int .i64 0, .int .i64 0, .slice none 0 0, .slice none 0 0] 27)).heap.size = w.heap.size + 1 := size_alloc' _ _
    rw [e] at this
    exact Lst.alloc this _)
  have HK3 := Lib.hid (show Kp w ((((w.alloc (.cells #[Value.int .i64 0, .int .i64 0, .slice none 0 0, .slice none 0 0] 27)).alloc (.cells #[Value.int .i64 0, .int .i64 0, .slice none 0 0, .slice none 0 0] 27)).alloc (.cells #[] 4)).drew) from (((Below.refl _ _).alloc (by simp) _).alloc (by simp) _).drew)
  have HL3 := Lib.hid (show Lst ((((w.alloc (.cells #[Value.int .i64 0, .int .i64 0, .slice none 0 0, .slice none 0 0] 27)).alloc (.cells #[Value.int .i64 0, .int .i64 0, .slice none 0 0, .slice none 0 0] 27)).alloc (.cells #[] 4)).drew) (w.heap.size + 1) 4 (.slice (some ⟨w.heap.size + 1 + 1, 0, none⟩) 0 0) [] from by
    have := Lst.empty ((w.alloc (.cells #[Value.int .i64 0, .int .i64 0, .slice none 0 0, .slice none 0 0] 27)).alloc (.cells #[Value.int .i64 0, .int .i64 0, .slice none 0 0, .slice none 0 0] 27)) (w.heap.size + 1) 4 (by simp)
    have e : ((w.alloc (.cells #[Value.int .i64 0, .int .i64 0, .slice none 0 0, .slice none 0 0] 27)).alloc (.cells #[Value.int .i64 0, .int .i64 0, .slice none 0 0, .slice none 0 0] 27)).heap.size = w.heap.size + 1 + 1 := by rw [size_alloc', size_alloc']
    rw [e] at this
    exact this)
  have HZ2 := Lib.hid (show ∀ w5, World.grownBy ((((w.alloc (.cells #[Value.int .i64 0, .int .i64 0, .slice none 0 0, .slice none 0 0] 27)).alloc (.cells #[] 4)).alloc (.cells #[Value.int .i64 0, .int .i64 0, .slice none 0 0, .slice none 0 0] 27)).drew) w5 (Value.slice (some ⟨w.heap.size + 1, 0, none⟩) 0 0).ownBlock → w5.heap[w.heap.size + 1 + 1]? = some (.cells #[Value.int .i64 0, .int .i64 0, .slice none 0 0, .slice none 0 0] 27 (0, 0)) from fun w5 hg => by
    have e : ((w.alloc (.cells #[Value.int .i64 0, .int .i64 0, .slice none 0 0, .slice none 0 0] 27)).alloc (.cells #[] 4)).heap.size = w.heap.size + 1 + 1 := by rw [size_alloc', size_alloc']
    have h0 := heap_last ((w.alloc (.cells #[Value.int .i64 0, .int .i64 0, .slice none 0 0, .slice none 0 0] 27)).alloc (.cells #[] 4)) (.cells #[Value.int .i64 0, .int .i64 0, .slice none 0 0, .slice none 0 0] 27)
    rw [e] at h0
    rw [hg.block (w.heap.size + 1 + 1) (by show _ < ((((w.alloc (.cells #[Value.int .i64 0, .int .i64 0, .slice none 0 0, .slice none 0 0] 27)).alloc _).alloc _)).heap.size; rw [size_alloc', e]; omega) (fun e => by have e : some (w.heap.size + 1 + 1) = some (w.heap.size + 1) := e; injection e with e; omega)]
    exact h0)
  have HZ3 := Lib.hid (show ∀ w5, World.grownBy ((((w.alloc (.cells #[Value.int .i64 0, .int .i64 0, .slice none 0 0, .slice none 0 0] 27)).alloc (.cells #[Value.int .i64 0, .int .i64 0, .slice none 0 0, .slice none 0 0] 27)).alloc (.cells #[] 4)).drew) w5 (Value.slice (some ⟨w.heap.size + 1 + 1, 0, none⟩) 0 0).ownBlock → w5.heap[w.heap.size + 1]? = some (.cells #[Value.int .i64 0, .int .i64 0, .slice none 0 0, .slice none 0 0] 27 (0, 0)) from fun w5 hg => by
    have e : (w.alloc (.cells #[Value.int .i64 0, .int .i64 0, .slice none 0 0, .slice none 0 0] 27)).heap.size = w.heap.size + 1 := size_alloc' _ _
    have h0 := heap_last (w.alloc (.cells #[Value.int .i64 0, .int .i64 0, .slice none 0 0, .slice none 0 0] 27)) (.cells #[Value.int .i64 0, .int .i64 0, .slice none 0 0, .slice none 0 0] 27)
    rw [e] at h0
    rw [hg.block (w.heap.size + 1) (by show _ < ((((w.alloc (.cells #[Value.int .i64 0, .int .i64 0, .slice none 0 0, .slice none 0 0] 27)).alloc _).alloc _)).heap.size; rw [size_alloc', size_alloc', e]; omega) (fun e => by have e : some (w.heap.size + 1) = some (w.heap.size + 1 + 1) := e; injection e with e; omega)]
    exact (Below.heap_alloc _ _ _ (by rw [size_alloc', e]; omega)).trans h0)
  have HAL := Lib.hid (show (r.accept.map Value.bool).length = n by rw [List.length_map]; exact HNN.out.symm)
  have HON := Lib.hid (show ∀ u ∈ r.accept.map Value.bool, u.oneCell' = true from fun u hu => by obtain ⟨b, -, rfl⟩ := List.mem_map.1 hu; rfl)
  obtain ⟨q0, q1, q2, q3⟩ := HPB.out (w.alloc (.cells #[Value.int .i64 0, .int .i64 0, .slice none 0 0, .slice none 0 0] 27)) (Below.refl _ _)
  have hlb : bp < (w.alloc (.cells #[Value.int .i64 0, .int .i64 0, .slice none 0 0, .slice none 0 0] 27)).heap.size := by rw [size_alloc']; omega
  go_enter Tryz.func62, Tryz.ntmps62
  go_upto_region 1 with fail
  go_cut [3] (fun v3 wx => ∃ (Z : Nat) (a5 : Option Addr) (c5 : Nat), v3 = .pointer (some ⟨Z, 0, none⟩) ∧ Bld wx (w.heap.size + 1) Z k st (.slice a5 n c5) (.slice none 0 0) [] [] (r.accept.map Value.bool) ∧ Kp w wx)
  case first =>
-- {fast
    go_region_held3 (fun w' => w'.cell? ⟨bp, 0, none⟩ = some (.int .i64 k) ∧ w'.cell? ⟨bp, 1, none⟩ = some (.int .i64 st) ∧ w'.cell? ⟨bp, 2, none⟩ = some (.slice (some ⟨ba, oa, none⟩) n ca))
      (first | go_keep | exact HC3.out _ HK5.out | exact HC3.out _ ((((HK5.out.setCell (p := ⟨_, 0, none⟩) (Nat.le_succ _) _).setCell (p := ⟨_, 1, none⟩) (Nat.le_succ _) _).setCell (p := ⟨_, 2, none⟩) (Nat.le_succ _) _).setCell (p := ⟨_, 3, none⟩) (Nat.le_succ _) _) | exact HC3.out _ ((((HK5.out.setCell (p := ⟨_, 0, none⟩) (Nat.le_refl _) _).setCell (p := ⟨_, 1, none⟩) (Nat.le_refl _) _).setCell (p := ⟨_, 2, none⟩) (Nat.le_refl _) _).setCell (p := ⟨_, 3, none⟩) (Nat.le_refl _) _))
      ((refine step_pushs rfl _ _ 22 (by rfl) 4 (.bool false) 1 Tryz.underlying22 info4 (by decide) (by decide) (w.heap.size + 1) _ [] (by first | exact HL1.out | exact HL2.out | exact HL3.out) (by first | exact Kp.size HK1.out | exact Kp.size HK2.out | exact Kp.size HK3.out) (r.accept.map Value.bool) HON.out (by rw [HAL.out]; simp; omega) (by rfl) ⟨ba, oa, none⟩ n ca (by rfl) HAL.out ha0 (by first | exact HNEW.out _ HK1.out | exact HNEW.out _ HK2.out | exact HNEW.out _ HK3.out) ?_
        intro v5 w5 hl5 hg5; rw [List.nil_append] at hl5; obtain ⟨a5, n5, cp5, rfl, HN5⟩ := hl5.shape'; obtain rfl : n5 = n := (HN5.out.trans HAL.out); have HL5 := Lib.hid hl5; have HG5 := Lib.hid hg5; have HK5 : Hid (Kp w w5) := (by first | exact Lib.hid (Below.grown HK1.out hg5 (Kp.size HK1.out) (fun q hq => HL1.out.ge hq)) | exact Lib.hid (Below.grown HK2.out hg5 (Kp.size HK2.out) (fun q hq => HL2.out.ge hq)) | exact Lib.hid (Below.grown HK3.out hg5 (Kp.size HK3.out) (fun q hq => HL3.out.ge hq))); obtain ⟨q60, q61, q62, q63⟩ := HPB.out w5 HK5.out; have l6 : bp < w5.heap.size := (by have := Kp.size HK5.out; omega); first | (have o5 := HZ2.out w5 hg5; have q50 := cells_get o5 0; have q51 := cells_get o5 1; have q52 := cells_get o5 2; have q53 := cells_get o5 3; have z50 := cells_free o5 0; have z51 := cells_free o5 1; have z52 := cells_free o5 2; have z53 := cells_free o5 3; have l5 := lt_of_block o5; simp at q50 q51 q52 q53; have HO5 := Lib.hid o5; clear o5) | (have o5 := HZ3.out w5 hg5; have q50 := cells_get o5 0; have q51 := cells_get o5 1; have q52 := cells_get o5 2; have q53 := cells_get o5 3; have z50 := cells_free o5 0; have z51 := cells_free o5 1; have z52 := cells_free o5 2; have z53 := cells_free o5 3; have l5 := lt_of_block o5; simp at q50 q51 q52 q53; have HO5 := Lib.hid o5; clear o5) | skip; clear hl5 hg5))
    all_goals
      go_wp2_with fail
      go_meet
      first
        | exact ⟨_, _, _, rfl, ⟨Own.nil _ _ _, Lst.alloc HL5.out _, Lst.nil _ _ _, heap_last _ _, Kp.size HK5.out⟩, Below.alloc HK5.out (Kp.size HK5.out) _⟩
        | exact ⟨_, _, _, rfl, Bld.boxed HO5.out (Nat.le_succ _) HL5.out, ((((HK5.out.setCell (p := ⟨_, 0, none⟩) (Nat.le_succ _) _).setCell (p := ⟨_, 1, none⟩) (Nat.le_succ _) _).setCell (p := ⟨_, 2, none⟩) (Nat.le_succ _) _).setCell (p := ⟨_, 3, none⟩) (Nat.le_succ _) _)⟩
        | exact ⟨_, _, _, rfl, Bld.boxed HO5.out (Nat.le_refl _) HL5.out, ((((HK5.out.setCell (p := ⟨_, 0, none⟩) (Nat.le_refl _) _).setCell (p := ⟨_, 1, none⟩) (Nat.le_refl _) _).setCell (p := ⟨_, 2, none⟩) (Nat.le_refl _) _).setCell (p := ⟨_, 3, none⟩) (Nat.le_refl _) _)⟩
-- }fast
  case rest =>
    clear q0 q1 q2 q3 hlb HL1 HL2 HL3 HK1 HK2 HK3 HZ2 HZ3 HNEW HAC hna haa
    obtain ⟨Z, a5, c5, rfl, hbld, hk5⟩ := hcut
    have HD0 := Lib.hid hbld
    have HB0 := Lib.hid hk5
    clear hbld hk5
    go_wp2_with fail
    go_loopw [4] (fun i wr => ∃ (j : Nat) (vn : Value) (items : List (Value × List Value)), j ≤ len ∧ i = .int .i64 j ∧ Bld wr (w.heap.size + 1) Z k st (.slice a5 n c5) vn [] items (r.accept.map Value.bool) ∧ items.map Prod.snd = (r.next.take j).map (fun x => x.map (Value.int .i64)) ∧ Kp w wr) (fun i _ => len - (intOf i).toNat)
    case atStart => exact ⟨0, _, [], Nat.zero_le _, rfl, HD0.out, rfl, HB0.out⟩
    case round =>
      obtain ⟨j, vn, items, hj, rfl, hbld, hit, hbel⟩ := hrel
      have HD := Lib.hid hbld
      have HB := Lib.hid hbel
      have HI := Lib.hid hit
      obtain ⟨an, nn, cn, rfl, HNN5⟩ := hbld.nxt.shape'
      have b3 := (HPB.out _ hbel).2.2.2
      clear hbld hbel hit HD0 HB0
      by_cases hlt : j < len
      · obtain ⟨rfl, hbm⟩ := HMA.out (by omega)
        have hr := HVR.out _ HB.out j hlt
        have hc := HMC.out _ HB.out j hlt
        have HV := Lib.hid (fun W hW => HVR.out W hW j hlt)
        have HMJ := Lib.hid (fun W hW => HMC.out W hW j hlt)
        have HRL := Lib.hid (HROW.out j hlt)
        have HSB := Lib.hid (show w.heap.size + 1 ≤ wr.heap.size from Kp.size HB.out)
        have HBW := Lib.hid (show B ≤ wr.heap.size from by have := Kp.size HB.out; omega)
        obtain ⟨vj, hvj⟩ : ∃ vj, vj = V j := ⟨_, rfl⟩
        rw [← hvj] at hr hc HV HMJ
        obtain ⟨row, hrow⟩ : ∃ row, row = r.next.getD j [] := ⟨_, rfl⟩
        rw [← hrow] at hr HV HRL
        have HRW := Lib.hid hrow
        obtain ⟨ar, br, or', cr, rfl, -, -, -⟩ := hr
        obtain ⟨lr, hlr⟩ : ∃ lr, lr = row.length := ⟨_, rfl⟩
        rw [← hlr] at hc HV HMJ
        have HLR := Lib.hid hlr
        have HIL := Lib.hid (show (items.map Prod.fst).length ≤ 100000000 by
          have := congrArg List.length HI.out
          rw [List.length_map, List.length_map, List.length_take] at this
          rw [List.length_map, this]; omega)
        have hc3 := HD.out.c3
        have hZl := HD.out.lt
        have lbp : bp < wr.heap.size := by have := Kp.size HB.out; omega
        have lbm : bm < wr.heap.size := by have := Kp.size HB.out; omega
        have j0 : (0 : Int) ≤ (j : Int) := Int.natCast_nonneg _
        have j1 : (j : Int) < (len : Int) := by omega
        have HSN := Lib.hid (show r.next.take (j + 1) = r.next.take j ++ [row] from by
          rw [List.take_succ_eq_append_getElem (by rw [← HLEN.out]; exact hlt), HRW.out]
          simp [List.getD, show j < r.next.length from by rw [← HLEN.out]; exact hlt])
        clear hvj hrow hlr
        go_upto_region 5 with fail
        go_region_law
            (first
              | (refine step_push (by rfl) _ _ 23 (by rfl) 70 (.slice none 0 0) 24 Tryz.underlying23 info54 (by decide) (by decide) (w.heap.size + 1) (.slice an nn cn) _ (.slice a8 lr c8) (by first | exact HD2.out.nxt | exact HD2.out.nxt.drew) (Kp.size HK2.out) (by rfl) HIL.out (by rfl) _ (by rfl) (by rfl) ?_; intro v6 w6 hp6; obtain ⟨a6, n6, c6, rfl, -⟩ := hp6.lst.shape'; have HX6 : Hid (w6.heap[Z]? = some (.cells #[.int .i64 k, .int .i64 st, .slice a5 n c5, .slice an nn cn] 27 (0, 0)) ∧ Bld (w6.setCell ⟨Z, 3, none⟩ (.slice a6 n6 c6)) (w.heap.size + 1) Z k st (.slice a5 n c5) (.slice a6 n6 c6) [] (items ++ [(.slice a8 lr c8, row.map (Value.int .i64))]) (r.accept.map Value.bool) ∧ Kp w w6) := (by first | exact Lib.hid ⟨HD2.out.obNext hp6, HD2.out.pushNext [] [] hp6, HK2.out.grown hp6.grow (Kp.size HK2.out) (fun q hq => HD2.out.nxt.ge hq)⟩ | exact Lib.hid ⟨HD2.out.drew.obNext hp6, HD2.out.drew.pushNext [] [] hp6, HK2.out.drew.grown hp6.grow (Kp.size HK2.out) (fun q hq => HD2.out.nxt.ge hq)⟩); have o6 := HX6.out.1; have q6 := (cells_get o6 3); have z6 := cells_free o6 3; have hl6 := (lt_of_block o6); have HE6 := Lib.hid HX6.out.2.1; have HK5 := Lib.hid HX6.out.2.2; have HK6 := Lib.hid (show Kp w (w6.setCell ⟨Z, 3, none⟩ (.slice a6 n6 c6)) from HK5.out.setCell (p := ⟨Z, 3, none⟩) HD2.out.obB _); simp at q6; clear hp6 o6)
              | (go_simp; go_at_call 92; (first | refine (ownI row (.slice ar lr cr) wr B (HV.out _ HB.out) HBW.out HRL.out.1 HRL.out.2).mono ?_ | refine (ownI row (.slice ar lr cr) wr.drew B (HV.out wr.drew (Below.drew HB.out)) HBW.out HRL.out.1 HRL.out.2).mono ?_); rintro e w2 ⟨a8, c8, rfl, hl8, hb8⟩; have hb9 : Below wr.heap.size wr w2 := (by first | exact hb8 | exact ((Below.refl _ _).drew).trans hb8); rw [← HLR.out] at hl8; rw [← HLR.out]; have HD2 := Lib.hid (show Bld w2 (w.heap.size + 1) Z k st (.slice a5 n c5) (.slice an nn cn) [(.slice a8 lr c8, row.map (Value.int .i64))] items (r.accept.map Value.bool) from HD.out.addInt hb9 (Lst.mono hl8 HSB.out) (fun q hq => Lst.ge hl8 hq)); have HK2 := Lib.hid (show Kp w w2 from Below.trans HB.out (hb9.mono (Kp.size HB.out))); have HK3 := Lib.hid (show Kp w (w2.alloc (.cells #[.slice a8 lr c8] 70)) from Below.alloc HK2.out (Kp.size HK2.out) _);  have hq3 := HD2.out.c3; have hlZ2 := HD2.out.lt; obtain ⟨q23, q24⟩ := And.intro (HPB.out _ HK2.out).2.2.2 (HMJ.out _ HK2.out); have l23 : bp < w2.heap.size := (by have := Kp.size HK2.out; omega); have l24 : bm < w2.heap.size := (by have := Kp.size HK2.out; omega); clear hl8 hb8 hb9; try dsimp only))
        all_goals
          go_wp2_with fail
          go_roundw
          case rel => exact ⟨j + 1, _, _, by omega, by go_num, HE6.out, by rw [List.map_append, HI.out, HSN.out, List.map_append]; rfl, HK6.out⟩
          case measure => simp [intOf]; omega
      · obtain rfl : j = len := by omega
        have HBU := Lib.hid (show Built wr (w.heap.size + 1) (.slice a5 n c5) (.slice an nn cn) r.accept r.next from Built.of_bld HD.out rfl (by rw [HI.out, List.take_of_length_le (by rw [← HLEN.out]; exact Nat.le_refl _)]))
        have hat := HD.out.at_
        have hZl := HD.out.lt
        have d0 := cells_get hat 0
        have d1 := cells_get hat 1
        have d2 := cells_get hat 2
        have d3 := cells_get hat 3
        simp at d0 d1 d2 d3
        have hres := Kp.res HB.out
        have r0 := cells_get hres 0
        have r1 := cells_get hres 1
        have r2 := cells_get hres 2
        have r3 := cells_get hres 3
        have f0 := cells_free hres 0
        have f1 := cells_free hres 1
        have f2 := cells_free hres 2
        have f3 := cells_free hres 3
        have hlS := lt_of_block hres
        have p0 := cells_set hres 0 (.int .i64 k)
        have p1 := cells_set p0 1 (.int .i64 st)
        have p2 := cells_set p1 2 (.slice a5 n c5)
        have p3 := cells_set p2 3 (.slice an nn cn)
        simp at r0 r1 r2 r3 p3
        have g0 := cells_get p3 0
        have g1 := cells_get p3 1
        have g2 := cells_get p3 2
        have g3 := cells_get p3 3
        simp at g0 g1 g2 g3
        have HG := Lib.hid (And.intro g0 (And.intro g1 (And.intro g2 g3)))
        have HBS := Lib.hid (Kp.base HB.out)
        clear p0 p1 p2 p3 g0 g1 g2 g3 hres hat
        go_wp2_with fail
        obtain ⟨g0, g1, g2, g3⟩ := HG.out
        refine bodyPost_ret (v := .agg #[.int .i64 k, .int .i64 st, .slice a5 n c5, .slice an nn cn]) (by simp [results, Tryz.results62, go_sem, g0, g1, g2, g3]) rfl ⟨.slice a5 n c5, .slice an nn cn, rfl, ?_, ?_⟩
        · exact (((((HBU.out.setLow (a := ⟨w.heap.size, 0, none⟩) (Nat.lt_succ_self _) _).setLow (a := ⟨w.heap.size, 1, none⟩) (Nat.lt_succ_self _) _).setLow (a := ⟨w.heap.size, 2, none⟩) (Nat.lt_succ_self _) _).setLow (a := ⟨w.heap.size, 3, none⟩) (Nat.lt_succ_self _) _).mono (Nat.le_succ _))
        · exact ((((HBS.out.setCell (p := ⟨w.heap.size, 0, none⟩) (Nat.le_refl _) _).setCell (p := ⟨w.heap.size, 1, none⟩) (Nat.le_refl _) _).setCell (p := ⟨w.heap.size, 2, none⟩) (Nat.le_refl _) _).setCell (p := ⟨w.heap.size, 3, none⟩) (Nat.le_refl _) _)
end Go.Proofs.YtcpcbmappcndcaaGreatDoor.CopyI
