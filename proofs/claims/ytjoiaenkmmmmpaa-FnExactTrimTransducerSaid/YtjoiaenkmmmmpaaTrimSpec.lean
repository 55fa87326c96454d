
/- What the model's function that trims a transducer hands back.
   Conditions: the transducer is read as XEdg's text says, and is valid. -/
import Derived.Test.YtjoiaenkmmmmpaaTrimImpl
import Derived.Test.YtjoiaenkmmmmpaaPush
namespace Go.Proofs.Ytjoiaenkmmmmpaa.TrimSpec
set_option linter.unusedVariables false
set_option linter.unusedSimpArgs false
set_option maxRecDepth 100000
open Go.RowKit Mem Copy Rel Heap MarkRow Edg EdgCopy EdgEq TrHeap TrLawKit TrValid TrImplValid TurnImpl TurnSpec CloneB Push TrReach TrReached TrimKit TrimImpl

/-- The numbers behind k rounds. -/
def numS (K : Nat → Bool) (k j : Nat) : Int := if j < k then (if K j = true then (numOf K j : Nat) else -1) else 0
theorem numS_yes {K : Nat → Bool} {k : Nat} (h : K k = true) (j : Nat) : (if j = k then ((numOf K k : Nat) : Int) else if j = k then -1 else numS K k j) = numS K (k + 1) j := by
  unfold numS
  by_cases e : j = k
  · subst e; rw [if_pos rfl, if_pos (Nat.lt_succ_self j), if_pos h]
  · rw [if_neg e, if_neg e]
    have : (j < k) = (j < k + 1) := propext ⟨fun h => by omega, fun h => by omega⟩
    simp only [this]
theorem numS_no {K : Nat → Bool} {k : Nat} (h : K k = false) (j : Nat) : (if j = k then -1 else numS K k j) = numS K (k + 1) j := by
  unfold numS
  by_cases e : j = k
  · subst e; rw [if_pos rfl, if_pos (Nat.lt_succ_self j), if_neg (by rw [h]; exact Bool.false_ne_true)]
  · rw [if_neg e]
    have : (j < k) = (j < k + 1) := propext ⟨fun h => by omega, fun h => by omega⟩
    simp only [this]
theorem numS_all {K : Nat → Bool} {n j : Nat} (h : j < n) (hk : K j = true) : numS K n j = (numOf K j : Nat) := by unfold numS; rw [if_pos h, if_pos hk]
theorem numS_out {K : Nat → Bool} {n j : Nat} (h : j < n) (hk : K j = false) : numS K n j = -1 := by unfold numS; rw [if_pos h, if_neg (by rw [hk]; exact Bool.false_ne_true)]

theorem Sp.grown {w W W' : World} {B g n cap : Nat} {s : List Bool} {row : Option Nat} (h : Sp w B g n cap s W) (hg : W.grownBy W' row) (hne : row ≠ some g) (hr : ∀ k, row = some k → w.heap.size ≤ k) : Sp w B g n cap s W' :=
  ⟨h.lst.grown hg (fun k hk e => hne (by rw [hk]; exact e.symm)), ⟨hg.os.trans h.grow.os, hg.tape.trans h.grow.tape, hg.output.trans h.grow.output, Nat.le_trans h.grow.size hg.size, fun k hk hn =>
    (hg.block k (Nat.lt_of_lt_of_le hk h.grow.size) (fun e => by have := hr k e.symm; omega)).trans (h.grow.block k hk hn)⟩, h.len⟩

set_option maxHeartbeats 8000000 in
theorem trimmedP (t : T) (hok : okT t = true) (va vn : Value) (bp : Nat) (w : World) (B : Nat) (h : TrPtr w B bp t va vn) (hB : B ≤ w.heap.size) (hbp : bp < w.heap.size) :
    Calls Try.prog 65 #[.pointer (some ⟨bp, 0, none⟩)] w fun e w' => ∃ (s1 s2 : List Bool) (ua un : Value), Fix t.edges ((List.replicate t.accept.length false).set t.start.toNat true) s1 ∧ Fix (t.edges.map flipD) t.accept s2 ∧
      e = .returned (.agg #[.int .i64 (trimOf s1 s2 t).start, ua, un]) ∧ BuiltT w' w.heap.size ua un (trimOf s1 s2 t).accept (trimOf s1 s2 t).edges ∧ Below w.heap.size w w' := by
  obtain ⟨hn1, hn2, hq, hs0, hs1, hall⟩ := ok_parts hok
  have hins := inside hall
  obtain ⟨⟨k0, k1, k2, -⟩, hacc, hed⟩ := h
  obtain ⟨ts, ta, te⟩ := t
  simp only at hn1 hn2 hq hs0 hs1 hins hacc hed k0 ⊢
  obtain ⟨st, rfl⟩ := Int.eq_ofNat_of_zero_le hs0
  rw [Int.toNat_natCast]
  have HFT := Lib.hid (show ∀ i, i < te.length → (te.getD i noE).Fits by obtain ⟨_, _, _, _, _, _, _, hc⟩ := hed; exact fun i hi => (hc i hi).2)
  have HPT := Lib.hid (show ∀ W, Kp w W → TrPtr W w.heap.size bp ⟨(st : Nat), ta, te⟩ va vn from fun W hb =>
    ⟨⟨(Kp.cell hb (p := ⟨bp, 0, none⟩) hbp).trans k0, (Kp.cell hb (p := ⟨bp, 1, none⟩) hbp).trans k1, (Kp.cell hb (p := ⟨bp, 2, none⟩) hbp).trans k2, by have := Kp.size hb; omega⟩, (hacc.below (Kp.base hb) hB).mono hB, (hed.below (Kp.base hb) hB).mono hB⟩)
  have HAC := Lib.hid (fun W (hb : Kp w W) => (show Bools W B va ta from hacc.below (Kp.base hb) hB))
  obtain ⟨ab, bb, ob, cb, rfl, -, hbb, hcb⟩ := hed
  obtain ⟨aa, ba, oa, ca, rfl, -, haa, hca⟩ := hacc
  obtain ⟨rfl, hab⟩ := haa (by omega)
  obtain ⟨n, hnn⟩ : ∃ n, n = ta.length := ⟨_, rfl⟩
  obtain ⟨q, hqq⟩ : ∃ q, q = te.length := ⟨_, rfl⟩
  rw [← hnn] at hn1 hn2 hs1 hins HAC HPT hca k1 ⊢
  rw [← hqq] at hq hbb HPT hcb k2
  have HN := Lib.hid hnn
  have HQ := Lib.hid hqq
  have HIN := Lib.hid hins
  have HBB := Lib.hid hB
  have HA := Lib.hid (fun W (hb : Below w.heap.size w W) (i : Nat) (hi : i < n) => (show W.cell? ⟨ba, oa + i, none⟩ = some (.bool (ta.getD i false)) from (hb.cell (p := ⟨ba, oa + i, none⟩) (by show ba < _; omega)).trans (hca i hi)))
  have HC := Lib.hid (fun W (hb : Below w.heap.size w W) (i : Nat) (hi : i < q) => (show At4 W bb (ob + i * 4) (te.getD i noE) from ((hcb i hi).1).below hb (by have := (hbb (by omega)).2; omega)))
  have HBL := Lib.hid hab
  have HAB := Lib.hid hbb
  have HBP := Lib.hid hbp
  have HPC := Lib.hid (fun W (hb : Kp w W) => (show W.cell? ⟨bp, 0, none⟩ = some (.int .i64 (st : Nat)) ∧ W.cell? ⟨bp, 1, none⟩ = some (.slice (some ⟨ba, oa, none⟩) n ca) ∧ W.cell? ⟨bp, 2, none⟩ = some (.slice ab q cb) from
    ⟨(Kp.cell hb (p := ⟨bp, 0, none⟩) hbp).trans k0, (Kp.cell hb (p := ⟨bp, 1, none⟩) hbp).trans k1, (Kp.cell hb (p := ⟨bp, 2, none⟩) hbp).trans k2⟩))
  have hsn : st < n := by omega
  have hmk := run_make_row' (P := Try.prog) 22 4 (.bool false) 1 Try.underlying22 info4 rfl .i64 .i64 n (by omega) (by omega)
  have hmi := run_make_row' (P := Try.prog) 95 2 (.int .i64 0) 8 Try.underlying95 info2 rfl .i64 .i64 n (by omega) (by omega)
  have HK1 := Lib.hid (show Kp w ((w.alloc (.cells #[Value.int .i64 0, .slice none 0 0, .slice none 0 0] 30)).alloc (.cells (madeCells #[Value.bool false] n) 4)) from (Below.refl _ _).alloc (by rw [size_alloc']; exact Nat.le_refl _) _)
  have HL1 := Lib.hid (show Lst ((w.alloc (.cells #[Value.int .i64 0, .slice none 0 0, .slice none 0 0] 30)).alloc (.cells (madeCells #[Value.bool false] n) 4)) (w.heap.size + 1) 4 (.slice (some ⟨w.heap.size + 1, 0, none⟩) n n) ((List.replicate n false).map Value.bool) from by
    have h1 := Lst.made (w.alloc (.cells #[Value.int .i64 0, .slice none 0 0, .slice none 0 0] 30)) (w.heap.size + 1) 4 (.bool false) n (by rw [size_alloc']; exact Nat.le_refl _) (by unfold maxLen; omega)
    rw [size_alloc', ← rep_map] at h1
    exact h1)
  obtain ⟨x0, x1, x2⟩ := HPC.out (w.alloc (.cells #[Value.int .i64 0, .slice none 0 0, .slice none 0 0] 30)) (Below.refl _ _)
  have l0 : bp < (w.alloc (.cells #[Value.int .i64 0, .slice none 0 0, .slice none 0 0] 30)).heap.size := by rw [size_alloc']; omega
  clear hall hs0 hbb haa hnn hqq hins hok hB hca hcb hab k0 k1 k2
  go_enter Try.func65, Try.ntmps65
  go_upto_region 3 with fail
  clear x0 x1 x2 l0
  generalize hW1 : ((w.alloc (.cells #[Value.int .i64 0, .slice none 0 0, .slice none 0 0] 30)).alloc (.cells (madeCells #[Value.bool false] n) 4)) = W1 at HK1 HL1 ⊢
  clear hW1
  generalize hg1 : w.heap.size + 1 = g1 at HL1 ⊢
  have hg1' : w.heap.size + 1 ≤ g1 := by omega
  clear hg1
  have HSP0 := Lib.hid (show Sp W1 w.heap.size g1 n n (List.replicate n false) W1 from ⟨HL1.out.mono (by omega), grown_refl _ _, List.length_replicate ..⟩)
  have c0 := HSP0.out.cell hsn
  have c1 := HSP0.out.free st
  have c2 := HSP0.out.lt
  obtain ⟨x0, x1, x2⟩ := HPC.out _ HK1.out
  have c3 : bp < W1.heap.size := by have := Kp.size HK1.out; omega
  have HSP1 := Lib.hid (show Sp (W1.setCell ⟨g1, st, none⟩ (.bool true)) w.heap.size g1 n n ((List.replicate n false).set st true) (W1.setCell ⟨g1, st, none⟩ (.bool true)) from ⟨(HSP0.out.set hsn true).lst, grown_refl _ _, (HSP0.out.set hsn true).len⟩)
  have HK2 := Lib.hid (show Kp w (W1.setCell ⟨g1, st, none⟩ (.bool true)) from Below.setCell HK1.out (p := ⟨g1, st, none⟩) hg1' _)
  clear HL1 HSP0 HK1
  go_wp2_with fail
  refine (reached ⟨(st : Nat), ta, te⟩ false _ _ bp _ n g1 n _ w.heap.size (HPT.out _ HK2.out) HBP.out (by have := Kp.size HK2.out; omega) HSP1.out HIN.out (by rw [← HQ.out]; omega) (by omega)).mono ?_
  rintro e w2 ⟨rfl, s1, hf1, hsp⟩
  have HF1 := Lib.hid (show Fix te _ s1 from hf1)
  have HSP2 := Lib.hid hsp
  have HK3 := Lib.hid (show Kp w w2 from below_grown HK2.out hsp.grow (Kp.size HK2.out) (fun k e => by cases e; exact hg1'))
  clear hf1 hsp HSP1 HK2 c0 c1 c2 c3 x0 x1 x2
  have HK4 := Lib.hid (show Kp w (w2.alloc (.cells #[] 4)) from Kp.step HK3.out ((Below.refl _ _).alloc (Nat.le_refl _) _))
  have HL4 := Lib.hid (show Lst (w2.alloc (.cells #[] 4)) w2.heap.size 4 (.slice (some ⟨w2.heap.size, 0, none⟩) 0 0) [] from Lst.empty w2 w2.heap.size 4 (Nat.le_refl _))
  have HNEW := Lib.hid (news_bools (HAC.out _ HK4.out) (by rw [← HN.out]; omega))
  have HSA := Lib.hid (show Sp (W1.setCell ⟨g1, st, none⟩ (.bool true)) w.heap.size g1 n n s1 (w2.alloc (.cells #[] 4)) from HSP2.out.alloc _)
  have HSZ2 := Lib.hid (show w2.heap.size ≤ (w2.alloc (.cells #[] 4)).heap.size by rw [size_alloc']; omega)
  have HGS := Lib.hid (show g1 < w2.heap.size from HSP2.out.lt)
  have HLN := Lib.hid (show (([] : List Value).length + (ta.map Value.bool).length) ≤ 100000000 by rw [List.length_map, ← HN.out]; simp; omega)
  obtain ⟨x0, x1, x2⟩ := HPC.out _ HK3.out
  have c3 : bp < w2.heap.size := by have := Kp.size HK3.out; omega
  go_wp2_with (at_builtin; refine wpList_pushs rfl _ _ 22 rfl 4 (.bool false) 1 Try.underlying22 info4 (by decide) (by decide) w2.heap.size (.slice (some ⟨w2.heap.size, 0, none⟩) 0 0) [] HL4.out HSZ2.out (ta.map Value.bool) (fun u hu => by obtain ⟨b, -, rfl⟩ := List.mem_map.1 hu; rfl) HLN.out rfl ⟨ba, oa, none⟩ n ca rfl (by rw [List.length_map]; exact HN.out.symm) HNEW.out ?_; intro v5 w4 hl5 hg5; rw [List.nil_append] at hl5; obtain ⟨a5, n5, c7, rfl, HN5⟩ := hl5.shape'; obtain rfl : n = n5 := (by rw [HN5.out, List.length_map]; exact HN.out); have HL5 := Lib.hid hl5; have HG5 := Lib.hid hg5; clear hl5 hg5)
  obtain ⟨g2, rfl, hg2⟩ := Lst.addr HL5.out (by rw [List.length_map, ← HN.out]; omega)
  have hg22 : w2.heap.size ≤ g2 := HL5.out.ge (k := g2) rfl
  have hg12 : g1 < g2 := by have := HGS.out; omega
  have HSL := Lib.hid (show (W1.setCell ⟨g1, st, none⟩ (.bool true)).heap.size ≤ w2.heap.size from HSP2.out.grow.size)
  have HK5 := Lib.hid (show Kp w w4 from below_grown HK4.out HG5.out (Kp.size HK4.out) (fun k e => by have e : w2.heap.size = k := Option.some.inj e; have := Kp.size HK3.out; omega))
  have HSA4 := Lib.hid (Sp.grown HSA.out HG5.out (fun e => by have e : w2.heap.size = g1 := Option.some.inj e; have := HGS.out; omega) (fun k e => by have e : w2.heap.size = k := Option.some.inj e; have := HSL.out; omega))
  have HS4 := Lib.hid (show Sp w4 w.heap.size g2 n c7 ta w4 from ⟨HL5.out.mono (by have := Kp.size HK3.out; omega), grown_refl _ _, HN.out.symm⟩)
  clear HSA HK4 HL4 HNEW HSZ2 HLN HK3 HSP2 c3 x0 x1 x2
  refine (reached ⟨(st : Nat), ta, te⟩ true _ _ bp ta n g2 c7 w4 w.heap.size (HPT.out _ HK5.out) HBP.out (by have := Kp.size HK5.out; omega) HS4.out HIN.out (by rw [← HQ.out]; omega) (by omega)).mono ?_
  rintro e w5 ⟨rfl, s2, hf2, hsp⟩
  have HF2 := Lib.hid (show Fix (te.map flipD) ta s2 from hf2)
  have HSB := Lib.hid hsp
  have HSA5 := Lib.hid (Sp.grown HSA4.out hsp.grow (fun e => by have e : g2 = g1 := Option.some.inj e; omega) (fun k e => by have e : g2 = k := Option.some.inj e; have := HSL.out; omega))
  have HK6 := Lib.hid (show Kp w w5 from below_grown HK5.out hsp.grow (Kp.size HK5.out) (fun k e => by have e : g2 = k := Option.some.inj e; omega))
  clear hf2 hsp HSA4 HK5 HS4 HL5 HG5 hg2 hg22
  obtain ⟨KQ, hK⟩ : ∃ KQ, KQ = keepOf s1 s2 st := ⟨_, rfl⟩
  have HKV := Lib.hid (show ∀ i, KQ i = ((s1.getD i false && s2.getD i false) || decide (i = st)) by intro i; rw [hK]; rfl)
  have HKE := Lib.hid hK
  have HKST := Lib.hid (show KQ st = true by rw [HKV.out]; simp)
  clear hK
  have hSz : w.heap.size + 1 ≤ w5.heap.size := Kp.size HK6.out
  have hL1 : g1 < w5.heap.size := HSA5.out.lt
  have hL2 : g2 < w5.heap.size := HSB.out.lt
  have HLO := Lib.hid (show w.heap.size + 1 ≤ w5.heap.size ∧ g1 < w5.heap.size ∧ g2 < w5.heap.size from ⟨hSz, hL1, hL2⟩)
  have HKW := Lib.hid (fun W (hb : Below w5.heap.size w5 W) => (show Kp w W from Kp.step HK6.out hb))
  have HCA := Lib.hid (fun W (hb : Below w5.heap.size w5 W) i (hi : i < n) => (show W.cell? ⟨g1, i, none⟩ = some (.bool (s1.getD i false)) from (hb.cell (p := ⟨g1, i, none⟩) hL1).trans (HSA5.out.cell hi)))
  have HCB := Lib.hid (fun W (hb : Below w5.heap.size w5 W) i (hi : i < n) => (show W.cell? ⟨g2, i, none⟩ = some (.bool (s2.getD i false)) from (hb.cell (p := ⟨g2, i, none⟩) hL2).trans (HSB.out.cell hi)))
  have HBO := Lib.hid (show Tm w5 w5.heap.size w5.heap.size (w5.heap.size + 1) n (numS KQ 0) 0 (.slice none 0 0) (.slice none 0 0) (accOf KQ ta 0) [] ((w5.alloc (.cells (madeCells #[Value.int .i64 0] n) 2)).alloc (.cells #[Value.int .i64 0, .slice none 0 0, .slice none 0 0] 30)) from by
    have h1 := Lst.made w5 w5.heap.size 2 (.int .i64 0) n (Nat.le_refl _) (by unfold maxLen; omega)
    rw [tv_rep] at h1
    have h2 := heap_alloc_new (w5.alloc (.cells (madeCells #[Value.int .i64 0] n) 2)) (.cells #[Value.int .i64 0, .slice none 0 0, .slice none 0 0] 30)
    rw [size_alloc'] at h2
    have e : numS KQ 0 = fun _ => 0 := by funext j; unfold numS; rw [if_neg (Nat.not_lt_zero j)]
    rw [e]
    exact ⟨((Below.refl _ _).alloc (Nat.le_refl _) _).alloc (by rw [size_alloc']; omega) _, h1.alloc _, Lst.nil _ _ _, LstE.nil _ _, h2, Nat.le_succ _⟩)
  obtain ⟨x0, x1, x2⟩ := HPC.out _ HK6.out
  have c3 : bp < w5.heap.size := by have := HBP.out; omega
  have c4 : bp < w5.heap.size + 1 := by omega
  clear HSA5 HSB HK6 hSz hL1 hL2
  go_wp2_with fail
  clear x0 x1 x2 c3 c4 hmk hmi
  go_loopw [8] (fun v8 wr => ∃ (k : Nat) (va' : Value), k ≤ n ∧ v8 = .int .i64 k ∧ Tm w5 w5.heap.size w5.heap.size (w5.heap.size + 1) n (numS KQ k) 0 va' (.slice none 0 0) (accOf KQ ta k) [] wr) (fun v8 _ => n - (intOf v8).toNat)
  case atStart => exact ⟨0, _, Nat.zero_le _, rfl, HBO.out⟩
  case round =>
    obtain ⟨k, va', hk, rfl, hT⟩ := hrel
    obtain ⟨a8, n8, c8, rfl, HN8⟩ := hT.bld.acc.shape'
    obtain rfl : n8 = numOf KQ k := by rw [HN8.out, List.length_map, accOf_length]
    have HT := Lib.hid hT
    obtain ⟨⟨b0, b1, b2⟩, b3, b4, b5⟩ := hT.box
    have b6 := hT.ltZ
    have b7 := hT.ltG
    obtain ⟨x0, x1, x2⟩ := HPC.out _ (HKW.out _ hT.low)
    have l0 : bp < wr.heap.size := by have := HBP.out; have := HLO.out.1; omega
    have l1 : g1 < wr.heap.size := by have := HLO.out.2.1; omega
    have l2 : g2 < wr.heap.size := by have := HLO.out.2.2; omega
    have l3 : ba < wr.heap.size := by have := HLO.out.1; have := HBL.out; have := HBB.out; omega
    have q1 : g1 < w5.heap.size := HLO.out.2.1
    have q2 : g2 < w5.heap.size := HLO.out.2.2
    have q3 : bp < w5.heap.size := by have := HBP.out; have := HLO.out.1; omega
    have q4 : ba < w5.heap.size := by have := HLO.out.1; have := HBL.out; have := HBB.out; omega
    clear HBO
    by_cases hlt : k < n
    · have e1 := HCA.out _ hT.low k hlt
      have e2 := HCB.out _ hT.low k hlt
      have e4 := HA.out _ (Kp.base (HKW.out _ hT.low)) k hlt
      have e5 := hT.free k
      have e6 := hT.cell hlt
      have HLEN := Lib.hid (show ((accOf KQ ta k).map Value.bool).length ≤ 100000000 by rw [List.length_map, accOf_length]; have := numOf_le KQ k; omega)
      obtain ⟨y, hy⟩ : ∃ y, y = s1.getD k false := ⟨_, rfl⟩
      obtain ⟨z, hz⟩ : ∃ z, z = s2.getD k false := ⟨_, rfl⟩
      obtain ⟨a, ha⟩ : ∃ a, a = ta.getD k false := ⟨_, rfl⟩
      obtain ⟨m0, hm0⟩ : ∃ m0, m0 = numS KQ k k := ⟨_, rfl⟩
      rw [← hy] at e1
      rw [← hz] at e2
      rw [← ha] at e4
      rw [← hm0] at e6
      have HSS := Lib.hid (show ∀ W, Below w5.heap.size w5 W → (fun W => W.cell? ⟨bp, 1, none⟩ = some (.slice (some ⟨ba, oa, none⟩) n ca) ∧ W.cell? ⟨ba, oa + k, none⟩ = some (.bool a)) W from fun W hW => ⟨(HPC.out _ (HKW.out _ hW)).2.1, by rw [ha]; exact HA.out _ (Kp.base (HKW.out _ hW)) k hlt⟩)
      have HT1 := Lib.hid (HT.out.setNum hlt (-1))
      have HY := Lib.hid hy
      have HZ := Lib.hid hz
      have HAA := Lib.hid ha
      clear hy hz ha hm0 hT
      by_cases he : k = st
      · have d1 : ((k : Int) == (st : Int)) = true := by rw [he]; simp
        have HE := Lib.hid he
        clear he
        cases y <;> cases z
        case true.true =>
            have HKK := Lib.hid (show KQ k = true by rw [HKV.out, ← HY.out, ← HZ.out]; simp [HE.out])
            have HK2 := Lib.hid (HT1.out.setNum hlt ((numOf KQ k : Nat) : Int))
            go_upto_region 14 with fail
            generalize hW1 : (wr.setCell ⟨w5.heap.size, k, none⟩ (.int .i64 (-1))).setCell ⟨w5.heap.size, k, none⟩ (.int .i64 ((numOf KQ k : Nat) : Int)) = W1 at HK2 ⊢
            clear hW1
            clear b0 b1 b2 b3 b4 b5 b6 b7 l0 l1 l2 l3 e1 e2 e4 e5 e6 x0 x1 HT1 HT
            have HTD := Lib.hid HK2.out.drew
            have HSD := Lib.hid (HSS.out W1.drew HTD.out.low)
            have HSX := Lib.hid (HSS.out (W1.drew.alloc (.cells #[.bool a] 4)) (HTD.out.alloc _).low)
            obtain ⟨⟨b0, b1, b2⟩, b3, b4, b5⟩ := HTD.out.box
            have b6 : w5.heap.size + 1 < W1.heap.size := HK2.out.ltZ
            have b8 : W1.cell? ⟨w5.heap.size + 1, 1, none⟩ = some (.slice a8 (numOf KQ k) c8) := b1
            refine wp_region_held_drew (S := (fun W => W.cell? ⟨bp, 1, none⟩ = some (.slice (some ⟨ba, oa, none⟩) n ca) ∧ W.cell? ⟨ba, oa + k, none⟩ = some (.bool a))) (by kernel_rfl) ?hS2 (fun hHeld => ?hR2)
            case hS2 => (first | exact HSD.out | exact HSX.out | exact HSW.out | exact HS6.out)
            refine wpAnyH_take (i := 0) (v := ?v19) rfl (by kernel_rfl) (by kernel_rfl) (by kernel_rfl) (fun _ _ _ h => h) (Or.inl ⟨by rfl, ?y19⟩) (by assumption) ?r19
            case y19 => (intro W hSw; (try dsimp only at hSw); go_simp; try with_reducible rfl)
            (try simp only [Act.put, List.setIfInBounds_toArray, List.set_cons_zero, List.set_cons_succ])
            refine wpAnyH_take (i := 2) (v := ?v20) rfl (by kernel_rfl) (by kernel_rfl) (by kernel_rfl) (fun _ _ _ h => h) (Or.inl ⟨by rfl, ?y20⟩) (by assumption) ?r20
            case y20 => (intro W hSw; (try dsimp only at hSw); go_simp; try with_reducible rfl)
            (try simp only [Act.put, List.setIfInBounds_toArray, List.set_cons_zero, List.set_cons_succ])
            refine wpAnyH_take (i := 3) (v := ?v21) rfl (by kernel_rfl) (by kernel_rfl) (by kernel_rfl) (fun _ _ _ h => h) (Or.inl ⟨by rfl, ?y21⟩) (by assumption) ?r21
            case y21 => (intro W hSw; (try dsimp only at hSw); go_simp; try with_reducible rfl)
            (try simp only [Act.put, List.setIfInBounds_toArray, List.set_cons_zero, List.set_cons_succ])
            refine wpAnyH_take (i := 4) (v := ?v22) rfl (by kernel_rfl) (by kernel_rfl) (by kernel_rfl) (fun _ _ _ h => h) (Or.inl ⟨by rfl, ?y22⟩) (by assumption) ?r22
            case y22 => (intro W hSw; (try dsimp only at hSw); go_simp; try with_reducible rfl)
            (try simp only [Act.put, List.setIfInBounds_toArray, List.set_cons_zero, List.set_cons_succ])
            refine wpAnyH_take (i := 5) (v := ?v23) rfl (by kernel_rfl) (by kernel_rfl) (by kernel_rfl) (fun _ _ _ h => h) (Or.inl ⟨by rfl, ?y23⟩) (by assumption) ?r23
            case y23 => (intro W hSw; (try dsimp only at hSw); go_simp; try with_reducible rfl)
            (try simp only [Act.put, List.setIfInBounds_toArray, List.set_cons_zero, List.set_cons_succ])
            refine wpAnyH_take (i := 6) (v := ?v24) rfl (by kernel_rfl) (by kernel_rfl) (by kernel_rfl) (fun _ _ _ h => h) (Or.inl ⟨by rfl, ?y24⟩) (by assumption) ?r24
            case y24 => (intro W hSw; (try dsimp only at hSw); go_simp; try with_reducible rfl)
            (try simp only [Act.put, List.setIfInBounds_toArray, List.set_cons_zero, List.set_cons_succ])
            refine wpAnyH_take (i := 7) (v := ?v25) rfl (by kernel_rfl) (by kernel_rfl) (by kernel_rfl) (fun _ _ _ h => h) (Or.inl ⟨by rfl, ?y25⟩) (by assumption) ?r25
            case y25 => (intro W hSw; (try dsimp only at hSw); go_simp; try with_reducible rfl)
            (try simp only [Act.put, List.setIfInBounds_toArray, List.set_cons_zero, List.set_cons_succ])
            refine wpAnyH_take (i := 8) (v := ?v26) rfl (by kernel_rfl) (by kernel_rfl) (by kernel_rfl) (fun _ _ _ h => h) (Or.inl ⟨by rfl, ?y26⟩) (by assumption) ?r26
            case y26 => (intro W hSw; (try dsimp only at hSw); go_simp; try with_reducible rfl)
            (try simp only [Act.put, List.setIfInBounds_toArray, List.set_cons_zero, List.set_cons_succ])
            refine wpAnyH_ready (rs := [1, 9]) (by kernel_rfl) (by simp) ?_
            refine AllReadyH.cons rfl (fun K hK => ?_) (AllReadyH.cons rfl (fun K hK => ?_) AllReadyH.nil)
            · go_simp
              refine hK.out _ _ (by (first | exact HSD.out | exact HSX.out | exact HSW.out | exact HS6.out)) (fun hHeld => ?_)
              clear hK K
              (try simp only [Act.put, List.setIfInBounds_toArray, List.set_cons_zero, List.set_cons_succ])
              refine wpAnyH_ready (rs := [9]) (by kernel_rfl) (by simp) ?_
              refine AllReadyH.cons rfl (fun K hK => ?_) AllReadyH.nil
              · go_simp
                refine hK.out _ _ (by (first | exact HSD.out | exact HSX.out | exact HSW.out | exact HS6.out)) (fun hHeld => ?_)
                clear hK K
                (try simp only [Act.put, List.setIfInBounds_toArray, List.set_cons_zero, List.set_cons_succ])
                refine wpAnyH_ready (rs := [10]) (by kernel_rfl) (by simp) ?_
                refine AllReadyH.cons rfl (fun K hK => ?_) AllReadyH.nil
                · (refine step_push (by rfl) _ _ 22 (by rfl) 4 (.bool false) 1 Try.underlying22 info4 (by decide) (by decide) w5.heap.size (.slice a8 (numOf KQ k) c8) _ (.bool a) HTD.out.bld.acc HTD.out.size (by rfl) HLEN.out (by rfl) _ (by rfl) (by rfl) ?_; intro v6 w6 hp6; obtain ⟨a6, n6, c6, rfl, -⟩ := hp6.lst.shape'; obtain ⟨⟨u0, u1, u2⟩, ⟨u3, u4, u5⟩, u6⟩ := HTD.out.obA hp6; have HSW := Lib.hid (HSS.out w6 (HTD.out.lowA hp6)); have HT6 := Lib.hid (HTD.out.pushA hp6); have HS6 := Lib.hid (HSS.out _ HT6.out.low); clear hp6)
                  refine hK.out _ _ (by (first | exact HSD.out | exact HSX.out | exact HSW.out | exact HS6.out)) (fun hHeld => ?_)
                  clear hK K
                  (try simp only [Act.put, List.setIfInBounds_toArray, List.set_cons_zero, List.set_cons_succ])
                  refine wpAnyH_take (i := 11) (v := ?v27) rfl (by kernel_rfl) (by kernel_rfl) (by kernel_rfl) (fun _ _ _ h => h) (Or.inl ⟨by rfl, ?y27⟩) (by assumption) ?r27
                  case y27 => (intro W hSw; (try dsimp only at hSw); go_simp; try with_reducible rfl)
                  (try simp only [Act.put, List.setIfInBounds_toArray, List.set_cons_zero, List.set_cons_succ])
                  refine wpAnyH_ready (rs := [12]) (by kernel_rfl) (by simp) ?_
                  refine AllReadyH.cons rfl (fun K hK => ?_) AllReadyH.nil
                  · go_simp
                    refine hK.out _ _ (by (first | exact HSD.out | exact HSX.out | exact HSW.out | exact HS6.out)) (fun hHeld => ?_)
                    clear hK K
                    (try simp only [Act.put, List.setIfInBounds_toArray, List.set_cons_zero, List.set_cons_succ])
                    refine wpAnyH_done (by kernel_rfl) ?_ _
                    go_wp2_with fail
                    go_roundw
                    case rel => exact ⟨k + 1, _, by omega, by go_num, (by rw [accOf_yes HKK.out, ← HAA.out]; exact HT6.out.congr fun j hj => numS_yes HKK.out j)⟩
                    case measure => simp [intOf]; omega
            · go_simp
              refine hK.out _ _ (by (first | exact HSD.out | exact HSX.out | exact HSW.out | exact HS6.out)) (fun hHeld => ?_)
              clear hK K
              (try simp only [Act.put, List.setIfInBounds_toArray, List.set_cons_zero, List.set_cons_succ])
              refine wpAnyH_ready (rs := [1]) (by kernel_rfl) (by simp) ?_
              refine AllReadyH.cons rfl (fun K hK => ?_) AllReadyH.nil
              · go_simp
                refine hK.out _ _ (by (first | exact HSD.out | exact HSX.out | exact HSW.out | exact HS6.out)) (fun hHeld => ?_)
                clear hK K
                (try simp only [Act.put, List.setIfInBounds_toArray, List.set_cons_zero, List.set_cons_succ])
                refine wpAnyH_ready (rs := [10]) (by kernel_rfl) (by simp) ?_
                refine AllReadyH.cons rfl (fun K hK => ?_) AllReadyH.nil
                · (refine step_push (by rfl) _ _ 22 (by rfl) 4 (.bool false) 1 Try.underlying22 info4 (by decide) (by decide) w5.heap.size (.slice a8 (numOf KQ k) c8) _ (.bool a) HTD.out.bld.acc HTD.out.size (by rfl) HLEN.out (by rfl) _ (by rfl) (by rfl) ?_; intro v6 w6 hp6; obtain ⟨a6, n6, c6, rfl, -⟩ := hp6.lst.shape'; obtain ⟨⟨u0, u1, u2⟩, ⟨u3, u4, u5⟩, u6⟩ := HTD.out.obA hp6; have HSW := Lib.hid (HSS.out w6 (HTD.out.lowA hp6)); have HT6 := Lib.hid (HTD.out.pushA hp6); have HS6 := Lib.hid (HSS.out _ HT6.out.low); clear hp6)
                  refine hK.out _ _ (by (first | exact HSD.out | exact HSX.out | exact HSW.out | exact HS6.out)) (fun hHeld => ?_)
                  clear hK K
                  (try simp only [Act.put, List.setIfInBounds_toArray, List.set_cons_zero, List.set_cons_succ])
                  refine wpAnyH_take (i := 11) (v := ?v28) rfl (by kernel_rfl) (by kernel_rfl) (by kernel_rfl) (fun _ _ _ h => h) (Or.inl ⟨by rfl, ?y28⟩) (by assumption) ?r28
                  case y28 => (intro W hSw; (try dsimp only at hSw); go_simp; try with_reducible rfl)
                  (try simp only [Act.put, List.setIfInBounds_toArray, List.set_cons_zero, List.set_cons_succ])
                  refine wpAnyH_ready (rs := [12]) (by kernel_rfl) (by simp) ?_
                  refine AllReadyH.cons rfl (fun K hK => ?_) AllReadyH.nil
                  · go_simp
                    refine hK.out _ _ (by (first | exact HSD.out | exact HSX.out | exact HSW.out | exact HS6.out)) (fun hHeld => ?_)
                    clear hK K
                    (try simp only [Act.put, List.setIfInBounds_toArray, List.set_cons_zero, List.set_cons_succ])
                    refine wpAnyH_done (by kernel_rfl) ?_ _
                    go_wp2_with fail
                    go_roundw
                    case rel => exact ⟨k + 1, _, by omega, by go_num, (by rw [accOf_yes HKK.out, ← HAA.out]; exact HT6.out.congr fun j hj => numS_yes HKK.out j)⟩
                    case measure => simp [intOf]; omega

        case true.false =>
            have HKK := Lib.hid (show KQ k = true by rw [HKV.out, ← HY.out, ← HZ.out]; simp [HE.out])
            have HK2 := Lib.hid (HT1.out.setNum hlt ((numOf KQ k : Nat) : Int))
            go_upto_region 14 with fail
            generalize hW1 : (wr.setCell ⟨w5.heap.size, k, none⟩ (.int .i64 (-1))).setCell ⟨w5.heap.size, k, none⟩ (.int .i64 ((numOf KQ k : Nat) : Int)) = W1 at HK2 ⊢
            clear hW1
            clear b0 b1 b2 b3 b4 b5 b6 b7 l0 l1 l2 l3 e1 e2 e4 e5 e6 x0 x1 HT1 HT
            have HTD := Lib.hid HK2.out.drew
            have HSD := Lib.hid (HSS.out W1.drew HTD.out.low)
            have HSX := Lib.hid (HSS.out (W1.drew.alloc (.cells #[.bool a] 4)) (HTD.out.alloc _).low)
            obtain ⟨⟨b0, b1, b2⟩, b3, b4, b5⟩ := HTD.out.box
            have b6 : w5.heap.size + 1 < W1.heap.size := HK2.out.ltZ
            have b8 : W1.cell? ⟨w5.heap.size + 1, 1, none⟩ = some (.slice a8 (numOf KQ k) c8) := b1
            refine wp_region_held_drew (S := (fun W => W.cell? ⟨bp, 1, none⟩ = some (.slice (some ⟨ba, oa, none⟩) n ca) ∧ W.cell? ⟨ba, oa + k, none⟩ = some (.bool a))) (by kernel_rfl) ?hS3 (fun hHeld => ?hR3)
            case hS3 => (first | exact HSD.out | exact HSX.out | exact HSW.out | exact HS6.out)
            refine wpAnyH_take (i := 0) (v := ?v29) rfl (by kernel_rfl) (by kernel_rfl) (by kernel_rfl) (fun _ _ _ h => h) (Or.inl ⟨by rfl, ?y29⟩) (by assumption) ?r29
            case y29 => (intro W hSw; (try dsimp only at hSw); go_simp; try with_reducible rfl)
            (try simp only [Act.put, List.setIfInBounds_toArray, List.set_cons_zero, List.set_cons_succ])
            refine wpAnyH_take (i := 2) (v := ?v30) rfl (by kernel_rfl) (by kernel_rfl) (by kernel_rfl) (fun _ _ _ h => h) (Or.inl ⟨by rfl, ?y30⟩) (by assumption) ?r30
            case y30 => (intro W hSw; (try dsimp only at hSw); go_simp; try with_reducible rfl)
            (try simp only [Act.put, List.setIfInBounds_toArray, List.set_cons_zero, List.set_cons_succ])
            refine wpAnyH_take (i := 3) (v := ?v31) rfl (by kernel_rfl) (by kernel_rfl) (by kernel_rfl) (fun _ _ _ h => h) (Or.inl ⟨by rfl, ?y31⟩) (by assumption) ?r31
            case y31 => (intro W hSw; (try dsimp only at hSw); go_simp; try with_reducible rfl)
            (try simp only [Act.put, List.setIfInBounds_toArray, List.set_cons_zero, List.set_cons_succ])
            refine wpAnyH_take (i := 4) (v := ?v32) rfl (by kernel_rfl) (by kernel_rfl) (by kernel_rfl) (fun _ _ _ h => h) (Or.inl ⟨by rfl, ?y32⟩) (by assumption) ?r32
            case y32 => (intro W hSw; (try dsimp only at hSw); go_simp; try with_reducible rfl)
            (try simp only [Act.put, List.setIfInBounds_toArray, List.set_cons_zero, List.set_cons_succ])
            refine wpAnyH_take (i := 5) (v := ?v33) rfl (by kernel_rfl) (by kernel_rfl) (by kernel_rfl) (fun _ _ _ h => h) (Or.inl ⟨by rfl, ?y33⟩) (by assumption) ?r33
            case y33 => (intro W hSw; (try dsimp only at hSw); go_simp; try with_reducible rfl)
            (try simp only [Act.put, List.setIfInBounds_toArray, List.set_cons_zero, List.set_cons_succ])
            refine wpAnyH_take (i := 6) (v := ?v34) rfl (by kernel_rfl) (by kernel_rfl) (by kernel_rfl) (fun _ _ _ h => h) (Or.inl ⟨by rfl, ?y34⟩) (by assumption) ?r34
            case y34 => (intro W hSw; (try dsimp only at hSw); go_simp; try with_reducible rfl)
            (try simp only [Act.put, List.setIfInBounds_toArray, List.set_cons_zero, List.set_cons_succ])
            refine wpAnyH_take (i := 7) (v := ?v35) rfl (by kernel_rfl) (by kernel_rfl) (by kernel_rfl) (fun _ _ _ h => h) (Or.inl ⟨by rfl, ?y35⟩) (by assumption) ?r35
            case y35 => (intro W hSw; (try dsimp only at hSw); go_simp; try with_reducible rfl)
            (try simp only [Act.put, List.setIfInBounds_toArray, List.set_cons_zero, List.set_cons_succ])
            refine wpAnyH_take (i := 8) (v := ?v36) rfl (by kernel_rfl) (by kernel_rfl) (by kernel_rfl) (fun _ _ _ h => h) (Or.inl ⟨by rfl, ?y36⟩) (by assumption) ?r36
            case y36 => (intro W hSw; (try dsimp only at hSw); go_simp; try with_reducible rfl)
            (try simp only [Act.put, List.setIfInBounds_toArray, List.set_cons_zero, List.set_cons_succ])
            refine wpAnyH_ready (rs := [1, 9]) (by kernel_rfl) (by simp) ?_
            refine AllReadyH.cons rfl (fun K hK => ?_) (AllReadyH.cons rfl (fun K hK => ?_) AllReadyH.nil)
            · go_simp
              refine hK.out _ _ (by (first | exact HSD.out | exact HSX.out | exact HSW.out | exact HS6.out)) (fun hHeld => ?_)
              clear hK K
              (try simp only [Act.put, List.setIfInBounds_toArray, List.set_cons_zero, List.set_cons_succ])
              refine wpAnyH_ready (rs := [9]) (by kernel_rfl) (by simp) ?_
              refine AllReadyH.cons rfl (fun K hK => ?_) AllReadyH.nil
              · go_simp
                refine hK.out _ _ (by (first | exact HSD.out | exact HSX.out | exact HSW.out | exact HS6.out)) (fun hHeld => ?_)
                clear hK K
                (try simp only [Act.put, List.setIfInBounds_toArray, List.set_cons_zero, List.set_cons_succ])
                refine wpAnyH_ready (rs := [10]) (by kernel_rfl) (by simp) ?_
                refine AllReadyH.cons rfl (fun K hK => ?_) AllReadyH.nil
                · (refine step_push (by rfl) _ _ 22 (by rfl) 4 (.bool false) 1 Try.underlying22 info4 (by decide) (by decide) w5.heap.size (.slice a8 (numOf KQ k) c8) _ (.bool a) HTD.out.bld.acc HTD.out.size (by rfl) HLEN.out (by rfl) _ (by rfl) (by rfl) ?_; intro v6 w6 hp6; obtain ⟨a6, n6, c6, rfl, -⟩ := hp6.lst.shape'; obtain ⟨⟨u0, u1, u2⟩, ⟨u3, u4, u5⟩, u6⟩ := HTD.out.obA hp6; have HSW := Lib.hid (HSS.out w6 (HTD.out.lowA hp6)); have HT6 := Lib.hid (HTD.out.pushA hp6); have HS6 := Lib.hid (HSS.out _ HT6.out.low); clear hp6)
                  refine hK.out _ _ (by (first | exact HSD.out | exact HSX.out | exact HSW.out | exact HS6.out)) (fun hHeld => ?_)
                  clear hK K
                  (try simp only [Act.put, List.setIfInBounds_toArray, List.set_cons_zero, List.set_cons_succ])
                  refine wpAnyH_take (i := 11) (v := ?v37) rfl (by kernel_rfl) (by kernel_rfl) (by kernel_rfl) (fun _ _ _ h => h) (Or.inl ⟨by rfl, ?y37⟩) (by assumption) ?r37
                  case y37 => (intro W hSw; (try dsimp only at hSw); go_simp; try with_reducible rfl)
                  (try simp only [Act.put, List.setIfInBounds_toArray, List.set_cons_zero, List.set_cons_succ])
                  refine wpAnyH_ready (rs := [12]) (by kernel_rfl) (by simp) ?_
                  refine AllReadyH.cons rfl (fun K hK => ?_) AllReadyH.nil
                  · go_simp
                    refine hK.out _ _ (by (first | exact HSD.out | exact HSX.out | exact HSW.out | exact HS6.out)) (fun hHeld => ?_)
                    clear hK K
                    (try simp only [Act.put, List.setIfInBounds_toArray, List.set_cons_zero, List.set_cons_succ])
                    refine wpAnyH_done (by kernel_rfl) ?_ _
                    go_wp2_with fail
                    go_roundw
                    case rel => exact ⟨k + 1, _, by omega, by go_num, (by rw [accOf_yes HKK.out, ← HAA.out]; exact HT6.out.congr fun j hj => numS_yes HKK.out j)⟩
                    case measure => simp [intOf]; omega
            · go_simp
              refine hK.out _ _ (by (first | exact HSD.out | exact HSX.out | exact HSW.out | exact HS6.out)) (fun hHeld => ?_)
              clear hK K
              (try simp only [Act.put, List.setIfInBounds_toArray, List.set_cons_zero, List.set_cons_succ])
              refine wpAnyH_ready (rs := [1]) (by kernel_rfl) (by simp) ?_
              refine AllReadyH.cons rfl (fun K hK => ?_) AllReadyH.nil
              · go_simp
                refine hK.out _ _ (by (first | exact HSD.out | exact HSX.out | exact HSW.out | exact HS6.out)) (fun hHeld => ?_)
                clear hK K
                (try simp only [Act.put, List.setIfInBounds_toArray, List.set_cons_zero, List.set_cons_succ])
                refine wpAnyH_ready (rs := [10]) (by kernel_rfl) (by simp) ?_
                refine AllReadyH.cons rfl (fun K hK => ?_) AllReadyH.nil
                · (refine step_push (by rfl) _ _ 22 (by rfl) 4 (.bool false) 1 Try.underlying22 info4 (by decide) (by decide) w5.heap.size (.slice a8 (numOf KQ k) c8) _ (.bool a) HTD.out.bld.acc HTD.out.size (by rfl) HLEN.out (by rfl) _ (by rfl) (by rfl) ?_; intro v6 w6 hp6; obtain ⟨a6, n6, c6, rfl, -⟩ := hp6.lst.shape'; obtain ⟨⟨u0, u1, u2⟩, ⟨u3, u4, u5⟩, u6⟩ := HTD.out.obA hp6; have HSW := Lib.hid (HSS.out w6 (HTD.out.lowA hp6)); have HT6 := Lib.hid (HTD.out.pushA hp6); have HS6 := Lib.hid (HSS.out _ HT6.out.low); clear hp6)
                  refine hK.out _ _ (by (first | exact HSD.out | exact HSX.out | exact HSW.out | exact HS6.out)) (fun hHeld => ?_)
                  clear hK K
                  (try simp only [Act.put, List.setIfInBounds_toArray, List.set_cons_zero, List.set_cons_succ])
                  refine wpAnyH_take (i := 11) (v := ?v38) rfl (by kernel_rfl) (by kernel_rfl) (by kernel_rfl) (fun _ _ _ h => h) (Or.inl ⟨by rfl, ?y38⟩) (by assumption) ?r38
                  case y38 => (intro W hSw; (try dsimp only at hSw); go_simp; try with_reducible rfl)
                  (try simp only [Act.put, List.setIfInBounds_toArray, List.set_cons_zero, List.set_cons_succ])
                  refine wpAnyH_ready (rs := [12]) (by kernel_rfl) (by simp) ?_
                  refine AllReadyH.cons rfl (fun K hK => ?_) AllReadyH.nil
                  · go_simp
                    refine hK.out _ _ (by (first | exact HSD.out | exact HSX.out | exact HSW.out | exact HS6.out)) (fun hHeld => ?_)
                    clear hK K
                    (try simp only [Act.put, List.setIfInBounds_toArray, List.set_cons_zero, List.set_cons_succ])
                    refine wpAnyH_done (by kernel_rfl) ?_ _
                    go_wp2_with fail
                    go_roundw
                    case rel => exact ⟨k + 1, _, by omega, by go_num, (by rw [accOf_yes HKK.out, ← HAA.out]; exact HT6.out.congr fun j hj => numS_yes HKK.out j)⟩
                    case measure => simp [intOf]; omega

        case false.true =>
            have HKK := Lib.hid (show KQ k = true by rw [HKV.out, ← HY.out, ← HZ.out]; simp [HE.out])
            have HK2 := Lib.hid (HT1.out.setNum hlt ((numOf KQ k : Nat) : Int))
            go_upto_region 14 with fail
            generalize hW1 : (wr.setCell ⟨w5.heap.size, k, none⟩ (.int .i64 (-1))).setCell ⟨w5.heap.size, k, none⟩ (.int .i64 ((numOf KQ k : Nat) : Int)) = W1 at HK2 ⊢
            clear hW1
            clear b0 b1 b2 b3 b4 b5 b6 b7 l0 l1 l2 l3 e1 e2 e4 e5 e6 x0 x1 HT1 HT
            have HTD := Lib.hid HK2.out.drew
            have HSD := Lib.hid (HSS.out W1.drew HTD.out.low)
            have HSX := Lib.hid (HSS.out (W1.drew.alloc (.cells #[.bool a] 4)) (HTD.out.alloc _).low)
            obtain ⟨⟨b0, b1, b2⟩, b3, b4, b5⟩ := HTD.out.box
            have b6 : w5.heap.size + 1 < W1.heap.size := HK2.out.ltZ
            have b8 : W1.cell? ⟨w5.heap.size + 1, 1, none⟩ = some (.slice a8 (numOf KQ k) c8) := b1
            refine wp_region_held_drew (S := (fun W => W.cell? ⟨bp, 1, none⟩ = some (.slice (some ⟨ba, oa, none⟩) n ca) ∧ W.cell? ⟨ba, oa + k, none⟩ = some (.bool a))) (by kernel_rfl) ?hS4 (fun hHeld => ?hR4)
            case hS4 => (first | exact HSD.out | exact HSX.out | exact HSW.out | exact HS6.out)
            refine wpAnyH_take (i := 0) (v := ?v39) rfl (by kernel_rfl) (by kernel_rfl) (by kernel_rfl) (fun _ _ _ h => h) (Or.inl ⟨by rfl, ?y39⟩) (by assumption) ?r39
            case y39 => (intro W hSw; (try dsimp only at hSw); go_simp; try with_reducible rfl)
            (try simp only [Act.put, List.setIfInBounds_toArray, List.set_cons_zero, List.set_cons_succ])
            refine wpAnyH_take (i := 2) (v := ?v40) rfl (by kernel_rfl) (by kernel_rfl) (by kernel_rfl) (fun _ _ _ h => h) (Or.inl ⟨by rfl, ?y40⟩) (by assumption) ?r40
            case y40 => (intro W hSw; (try dsimp only at hSw); go_simp; try with_reducible rfl)
            (try simp only [Act.put, List.setIfInBounds_toArray, List.set_cons_zero, List.set_cons_succ])
            refine wpAnyH_take (i := 3) (v := ?v41) rfl (by kernel_rfl) (by kernel_rfl) (by kernel_rfl) (fun _ _ _ h => h) (Or.inl ⟨by rfl, ?y41⟩) (by assumption) ?r41
            case y41 => (intro W hSw; (try dsimp only at hSw); go_simp; try with_reducible rfl)
            (try simp only [Act.put, List.setIfInBounds_toArray, List.set_cons_zero, List.set_cons_succ])
            refine wpAnyH_take (i := 4) (v := ?v42) rfl (by kernel_rfl) (by kernel_rfl) (by kernel_rfl) (fun _ _ _ h => h) (Or.inl ⟨by rfl, ?y42⟩) (by assumption) ?r42
            case y42 => (intro W hSw; (try dsimp only at hSw); go_simp; try with_reducible rfl)
            (try simp only [Act.put, List.setIfInBounds_toArray, List.set_cons_zero, List.set_cons_succ])
            refine wpAnyH_take (i := 5) (v := ?v43) rfl (by kernel_rfl) (by kernel_rfl) (by kernel_rfl) (fun _ _ _ h => h) (Or.inl ⟨by rfl, ?y43⟩) (by assumption) ?r43
            case y43 => (intro W hSw; (try dsimp only at hSw); go_simp; try with_reducible rfl)
            (try simp only [Act.put, List.setIfInBounds_toArray, List.set_cons_zero, List.set_cons_succ])
            refine wpAnyH_take (i := 6) (v := ?v44) rfl (by kernel_rfl) (by kernel_rfl) (by kernel_rfl) (fun _ _ _ h => h) (Or.inl ⟨by rfl, ?y44⟩) (by assumption) ?r44
            case y44 => (intro W hSw; (try dsimp only at hSw); go_simp; try with_reducible rfl)
            (try simp only [Act.put, List.setIfInBounds_toArray, List.set_cons_zero, List.set_cons_succ])
            refine wpAnyH_take (i := 7) (v := ?v45) rfl (by kernel_rfl) (by kernel_rfl) (by kernel_rfl) (fun _ _ _ h => h) (Or.inl ⟨by rfl, ?y45⟩) (by assumption) ?r45
            case y45 => (intro W hSw; (try dsimp only at hSw); go_simp; try with_reducible rfl)
            (try simp only [Act.put, List.setIfInBounds_toArray, List.set_cons_zero, List.set_cons_succ])
            refine wpAnyH_take (i := 8) (v := ?v46) rfl (by kernel_rfl) (by kernel_rfl) (by kernel_rfl) (fun _ _ _ h => h) (Or.inl ⟨by rfl, ?y46⟩) (by assumption) ?r46
            case y46 => (intro W hSw; (try dsimp only at hSw); go_simp; try with_reducible rfl)
            (try simp only [Act.put, List.setIfInBounds_toArray, List.set_cons_zero, List.set_cons_succ])
            refine wpAnyH_ready (rs := [1, 9]) (by kernel_rfl) (by simp) ?_
            refine AllReadyH.cons rfl (fun K hK => ?_) (AllReadyH.cons rfl (fun K hK => ?_) AllReadyH.nil)
            · go_simp
              refine hK.out _ _ (by (first | exact HSD.out | exact HSX.out | exact HSW.out | exact HS6.out)) (fun hHeld => ?_)
              clear hK K
              (try simp only [Act.put, List.setIfInBounds_toArray, List.set_cons_zero, List.set_cons_succ])
              refine wpAnyH_ready (rs := [9]) (by kernel_rfl) (by simp) ?_
              refine AllReadyH.cons rfl (fun K hK => ?_) AllReadyH.nil
              · go_simp
                refine hK.out _ _ (by (first | exact HSD.out | exact HSX.out | exact HSW.out | exact HS6.out)) (fun hHeld => ?_)
                clear hK K
                (try simp only [Act.put, List.setIfInBounds_toArray, List.set_cons_zero, List.set_cons_succ])
                refine wpAnyH_ready (rs := [10]) (by kernel_rfl) (by simp) ?_
                refine AllReadyH.cons rfl (fun K hK => ?_) AllReadyH.nil
                · (refine step_push (by rfl) _ _ 22 (by rfl) 4 (.bool false) 1 Try.underlying22 info4 (by decide) (by decide) w5.heap.size (.slice a8 (numOf KQ k) c8) _ (.bool a) HTD.out.bld.acc HTD.out.size (by rfl) HLEN.out (by rfl) _ (by rfl) (by rfl) ?_; intro v6 w6 hp6; obtain ⟨a6, n6, c6, rfl, -⟩ := hp6.lst.shape'; obtain ⟨⟨u0, u1, u2⟩, ⟨u3, u4, u5⟩, u6⟩ := HTD.out.obA hp6; have HSW := Lib.hid (HSS.out w6 (HTD.out.lowA hp6)); have HT6 := Lib.hid (HTD.out.pushA hp6); have HS6 := Lib.hid (HSS.out _ HT6.out.low); clear hp6)
                  refine hK.out _ _ (by (first | exact HSD.out | exact HSX.out | exact HSW.out | exact HS6.out)) (fun hHeld => ?_)
                  clear hK K
                  (try simp only [Act.put, List.setIfInBounds_toArray, List.set_cons_zero, List.set_cons_succ])
                  refine wpAnyH_take (i := 11) (v := ?v47) rfl (by kernel_rfl) (by kernel_rfl) (by kernel_rfl) (fun _ _ _ h => h) (Or.inl ⟨by rfl, ?y47⟩) (by assumption) ?r47
                  case y47 => (intro W hSw; (try dsimp only at hSw); go_simp; try with_reducible rfl)
                  (try simp only [Act.put, List.setIfInBounds_toArray, List.set_cons_zero, List.set_cons_succ])
                  refine wpAnyH_ready (rs := [12]) (by kernel_rfl) (by simp) ?_
                  refine AllReadyH.cons rfl (fun K hK => ?_) AllReadyH.nil
                  · go_simp
                    refine hK.out _ _ (by (first | exact HSD.out | exact HSX.out | exact HSW.out | exact HS6.out)) (fun hHeld => ?_)
                    clear hK K
                    (try simp only [Act.put, List.setIfInBounds_toArray, List.set_cons_zero, List.set_cons_succ])
                    refine wpAnyH_done (by kernel_rfl) ?_ _
                    go_wp2_with fail
                    go_roundw
                    case rel => exact ⟨k + 1, _, by omega, by go_num, (by rw [accOf_yes HKK.out, ← HAA.out]; exact HT6.out.congr fun j hj => numS_yes HKK.out j)⟩
                    case measure => simp [intOf]; omega
            · go_simp
              refine hK.out _ _ (by (first | exact HSD.out | exact HSX.out | exact HSW.out | exact HS6.out)) (fun hHeld => ?_)
              clear hK K
              (try simp only [Act.put, List.setIfInBounds_toArray, List.set_cons_zero, List.set_cons_succ])
              refine wpAnyH_ready (rs := [1]) (by kernel_rfl) (by simp) ?_
              refine AllReadyH.cons rfl (fun K hK => ?_) AllReadyH.nil
              · go_simp
                refine hK.out _ _ (by (first | exact HSD.out | exact HSX.out | exact HSW.out | exact HS6.out)) (fun hHeld => ?_)
                clear hK K
                (try simp only [Act.put, List.setIfInBounds_toArray, List.set_cons_zero, List.set_cons_succ])
                refine wpAnyH_ready (rs := [10]) (by kernel_rfl) (by simp) ?_
                refine AllReadyH.cons rfl (fun K hK => ?_) AllReadyH.nil
                · (refine step_push (by rfl) _ _ 22 (by rfl) 4 (.bool false) 1 Try.underlying22 info4 (by decide) (by decide) w5.heap.size (.slice a8 (numOf KQ k) c8) _ (.bool a) HTD.out.bld.acc HTD.out.size (by rfl) HLEN.out (by rfl) _ (by rfl) (by rfl) ?_; intro v6 w6 hp6; obtain ⟨a6, n6, c6, rfl, -⟩ := hp6.lst.shape'; obtain ⟨⟨u0, u1, u2⟩, ⟨u3, u4, u5⟩, u6⟩ := HTD.out.obA hp6; have HSW := Lib.hid (HSS.out w6 (HTD.out.lowA hp6)); have HT6 := Lib.hid (HTD.out.pushA hp6); have HS6 := Lib.hid (HSS.out _ HT6.out.low); clear hp6)
                  refine hK.out _ _ (by (first | exact HSD.out | exact HSX.out | exact HSW.out | exact HS6.out)) (fun hHeld => ?_)
                  clear hK K
                  (try simp only [Act.put, List.setIfInBounds_toArray, List.set_cons_zero, List.set_cons_succ])
                  refine wpAnyH_take (i := 11) (v := ?v48) rfl (by kernel_rfl) (by kernel_rfl) (by kernel_rfl) (fun _ _ _ h => h) (Or.inl ⟨by rfl, ?y48⟩) (by assumption) ?r48
                  case y48 => (intro W hSw; (try dsimp only at hSw); go_simp; try with_reducible rfl)
                  (try simp only [Act.put, List.setIfInBounds_toArray, List.set_cons_zero, List.set_cons_succ])
                  refine wpAnyH_ready (rs := [12]) (by kernel_rfl) (by simp) ?_
                  refine AllReadyH.cons rfl (fun K hK => ?_) AllReadyH.nil
                  · go_simp
                    refine hK.out _ _ (by (first | exact HSD.out | exact HSX.out | exact HSW.out | exact HS6.out)) (fun hHeld => ?_)
                    clear hK K
                    (try simp only [Act.put, List.setIfInBounds_toArray, List.set_cons_zero, List.set_cons_succ])
                    refine wpAnyH_done (by kernel_rfl) ?_ _
                    go_wp2_with fail
                    go_roundw
                    case rel => exact ⟨k + 1, _, by omega, by go_num, (by rw [accOf_yes HKK.out, ← HAA.out]; exact HT6.out.congr fun j hj => numS_yes HKK.out j)⟩
                    case measure => simp [intOf]; omega

        case false.false =>
            have HKK := Lib.hid (show KQ k = true by rw [HKV.out, ← HY.out, ← HZ.out]; simp [HE.out])
            have HK2 := Lib.hid (HT1.out.setNum hlt ((numOf KQ k : Nat) : Int))
            go_upto_region 14 with fail
            generalize hW1 : (wr.setCell ⟨w5.heap.size, k, none⟩ (.int .i64 (-1))).setCell ⟨w5.heap.size, k, none⟩ (.int .i64 ((numOf KQ k : Nat) : Int)) = W1 at HK2 ⊢
            clear hW1
            clear b0 b1 b2 b3 b4 b5 b6 b7 l0 l1 l2 l3 e1 e2 e4 e5 e6 x0 x1 HT1 HT
            have HTD := Lib.hid HK2.out.drew
            have HSD := Lib.hid (HSS.out W1.drew HTD.out.low)
            have HSX := Lib.hid (HSS.out (W1.drew.alloc (.cells #[.bool a] 4)) (HTD.out.alloc _).low)
            obtain ⟨⟨b0, b1, b2⟩, b3, b4, b5⟩ := HTD.out.box
            have b6 : w5.heap.size + 1 < W1.heap.size := HK2.out.ltZ
            have b8 : W1.cell? ⟨w5.heap.size + 1, 1, none⟩ = some (.slice a8 (numOf KQ k) c8) := b1
            refine wp_region_held_drew (S := (fun W => W.cell? ⟨bp, 1, none⟩ = some (.slice (some ⟨ba, oa, none⟩) n ca) ∧ W.cell? ⟨ba, oa + k, none⟩ = some (.bool a))) (by kernel_rfl) ?hS5 (fun hHeld => ?hR5)
            case hS5 => (first | exact HSD.out | exact HSX.out | exact HSW.out | exact HS6.out)
            refine wpAnyH_take (i := 0) (v := ?v49) rfl (by kernel_rfl) (by kernel_rfl) (by kernel_rfl) (fun _ _ _ h => h) (Or.inl ⟨by rfl, ?y49⟩) (by assumption) ?r49
            case y49 => (intro W hSw; (try dsimp only at hSw); go_simp; try with_reducible rfl)
            (try simp only [Act.put, List.setIfInBounds_toArray, List.set_cons_zero, List.set_cons_succ])
            refine wpAnyH_take (i := 2) (v := ?v50) rfl (by kernel_rfl) (by kernel_rfl) (by kernel_rfl) (fun _ _ _ h => h) (Or.inl ⟨by rfl, ?y50⟩) (by assumption) ?r50
            case y50 => (intro W hSw; (try dsimp only at hSw); go_simp; try with_reducible rfl)
            (try simp only [Act.put, List.setIfInBounds_toArray, List.set_cons_zero, List.set_cons_succ])
            refine wpAnyH_take (i := 3) (v := ?v51) rfl (by kernel_rfl) (by kernel_rfl) (by kernel_rfl) (fun _ _ _ h => h) (Or.inl ⟨by rfl, ?y51⟩) (by assumption) ?r51
            case y51 => (intro W hSw; (try dsimp only at hSw); go_simp; try with_reducible rfl)
            (try simp only [Act.put, List.setIfInBounds_toArray, List.set_cons_zero, List.set_cons_succ])
            refine wpAnyH_take (i := 4) (v := ?v52) rfl (by kernel_rfl) (by kernel_rfl) (by kernel_rfl) (fun _ _ _ h => h) (Or.inl ⟨by rfl, ?y52⟩) (by assumption) ?r52
            case y52 => (intro W hSw; (try dsimp only at hSw); go_simp; try with_reducible rfl)
            (try simp only [Act.put, List.setIfInBounds_toArray, List.set_cons_zero, List.set_cons_succ])
            refine wpAnyH_take (i := 5) (v := ?v53) rfl (by kernel_rfl) (by kernel_rfl) (by kernel_rfl) (fun _ _ _ h => h) (Or.inl ⟨by rfl, ?y53⟩) (by assumption) ?r53
            case y53 => (intro W hSw; (try dsimp only at hSw); go_simp; try with_reducible rfl)
            (try simp only [Act.put, List.setIfInBounds_toArray, List.set_cons_zero, List.set_cons_succ])
            refine wpAnyH_take (i := 6) (v := ?v54) rfl (by kernel_rfl) (by kernel_rfl) (by kernel_rfl) (fun _ _ _ h => h) (Or.inl ⟨by rfl, ?y54⟩) (by assumption) ?r54
            case y54 => (intro W hSw; (try dsimp only at hSw); go_simp; try with_reducible rfl)
            (try simp only [Act.put, List.setIfInBounds_toArray, List.set_cons_zero, List.set_cons_succ])
            refine wpAnyH_take (i := 7) (v := ?v55) rfl (by kernel_rfl) (by kernel_rfl) (by kernel_rfl) (fun _ _ _ h => h) (Or.inl ⟨by rfl, ?y55⟩) (by assumption) ?r55
            case y55 => (intro W hSw; (try dsimp only at hSw); go_simp; try with_reducible rfl)
            (try simp only [Act.put, List.setIfInBounds_toArray, List.set_cons_zero, List.set_cons_succ])
            refine wpAnyH_take (i := 8) (v := ?v56) rfl (by kernel_rfl) (by kernel_rfl) (by kernel_rfl) (fun _ _ _ h => h) (Or.inl ⟨by rfl, ?y56⟩) (by assumption) ?r56
            case y56 => (intro W hSw; (try dsimp only at hSw); go_simp; try with_reducible rfl)
            (try simp only [Act.put, List.setIfInBounds_toArray, List.set_cons_zero, List.set_cons_succ])
            refine wpAnyH_ready (rs := [1, 9]) (by kernel_rfl) (by simp) ?_
            refine AllReadyH.cons rfl (fun K hK => ?_) (AllReadyH.cons rfl (fun K hK => ?_) AllReadyH.nil)
            · go_simp
              refine hK.out _ _ (by (first | exact HSD.out | exact HSX.out | exact HSW.out | exact HS6.out)) (fun hHeld => ?_)
              clear hK K
              (try simp only [Act.put, List.setIfInBounds_toArray, List.set_cons_zero, List.set_cons_succ])
              refine wpAnyH_ready (rs := [9]) (by kernel_rfl) (by simp) ?_
              refine AllReadyH.cons rfl (fun K hK => ?_) AllReadyH.nil
              · go_simp
                refine hK.out _ _ (by (first | exact HSD.out | exact HSX.out | exact HSW.out | exact HS6.out)) (fun hHeld => ?_)
                clear hK K
                (try simp only [Act.put, List.setIfInBounds_toArray, List.set_cons_zero, List.set_cons_succ])
                refine wpAnyH_ready (rs := [10]) (by kernel_rfl) (by simp) ?_
                refine AllReadyH.cons rfl (fun K hK => ?_) AllReadyH.nil
                · (refine step_push (by rfl) _ _ 22 (by rfl) 4 (.bool false) 1 Try.underlying22 info4 (by decide) (by decide) w5.heap.size (.slice a8 (numOf KQ k) c8) _ (.bool a) HTD.out.bld.acc HTD.out.size (by rfl) HLEN.out (by rfl) _ (by rfl) (by rfl) ?_; intro v6 w6 hp6; obtain ⟨a6, n6, c6, rfl, -⟩ := hp6.lst.shape'; obtain ⟨⟨u0, u1, u2⟩, ⟨u3, u4, u5⟩, u6⟩ := HTD.out.obA hp6; have HSW := Lib.hid (HSS.out w6 (HTD.out.lowA hp6)); have HT6 := Lib.hid (HTD.out.pushA hp6); have HS6 := Lib.hid (HSS.out _ HT6.out.low); clear hp6)
                  refine hK.out _ _ (by (first | exact HSD.out | exact HSX.out | exact HSW.out | exact HS6.out)) (fun hHeld => ?_)
                  clear hK K
                  (try simp only [Act.put, List.setIfInBounds_toArray, List.set_cons_zero, List.set_cons_succ])
                  refine wpAnyH_take (i := 11) (v := ?v57) rfl (by kernel_rfl) (by kernel_rfl) (by kernel_rfl) (fun _ _ _ h => h) (Or.inl ⟨by rfl, ?y57⟩) (by assumption) ?r57
                  case y57 => (intro W hSw; (try dsimp only at hSw); go_simp; try with_reducible rfl)
                  (try simp only [Act.put, List.setIfInBounds_toArray, List.set_cons_zero, List.set_cons_succ])
                  refine wpAnyH_ready (rs := [12]) (by kernel_rfl) (by simp) ?_
                  refine AllReadyH.cons rfl (fun K hK => ?_) AllReadyH.nil
                  · go_simp
                    refine hK.out _ _ (by (first | exact HSD.out | exact HSX.out | exact HSW.out | exact HS6.out)) (fun hHeld => ?_)
                    clear hK K
                    (try simp only [Act.put, List.setIfInBounds_toArray, List.set_cons_zero, List.set_cons_succ])
                    refine wpAnyH_done (by kernel_rfl) ?_ _
                    go_wp2_with fail
                    go_roundw
                    case rel => exact ⟨k + 1, _, by omega, by go_num, (by rw [accOf_yes HKK.out, ← HAA.out]; exact HT6.out.congr fun j hj => numS_yes HKK.out j)⟩
                    case measure => simp [intOf]; omega
            · go_simp
              refine hK.out _ _ (by (first | exact HSD.out | exact HSX.out | exact HSW.out | exact HS6.out)) (fun hHeld => ?_)
              clear hK K
              (try simp only [Act.put, List.setIfInBounds_toArray, List.set_cons_zero, List.set_cons_succ])
              refine wpAnyH_ready (rs := [1]) (by kernel_rfl) (by simp) ?_
              refine AllReadyH.cons rfl (fun K hK => ?_) AllReadyH.nil
              · go_simp
                refine hK.out _ _ (by (first | exact HSD.out | exact HSX.out | exact HSW.out | exact HS6.out)) (fun hHeld => ?_)
                clear hK K
                (try simp only [Act.put, List.setIfInBounds_toArray, List.set_cons_zero, List.set_cons_succ])
                refine wpAnyH_ready (rs := [10]) (by kernel_rfl) (by simp) ?_
                refine AllReadyH.cons rfl (fun K hK => ?_) AllReadyH.nil
                · (refine step_push (by rfl) _ _ 22 (by rfl) 4 (.bool false) 1 Try.underlying22 info4 (by decide) (by decide) w5.heap.size (.slice a8 (numOf KQ k) c8) _ (.bool a) HTD.out.bld.acc HTD.out.size (by rfl) HLEN.out (by rfl) _ (by rfl) (by rfl) ?_; intro v6 w6 hp6; obtain ⟨a6, n6, c6, rfl, -⟩ := hp6.lst.shape'; obtain ⟨⟨u0, u1, u2⟩, ⟨u3, u4, u5⟩, u6⟩ := HTD.out.obA hp6; have HSW := Lib.hid (HSS.out w6 (HTD.out.lowA hp6)); have HT6 := Lib.hid (HTD.out.pushA hp6); have HS6 := Lib.hid (HSS.out _ HT6.out.low); clear hp6)
                  refine hK.out _ _ (by (first | exact HSD.out | exact HSX.out | exact HSW.out | exact HS6.out)) (fun hHeld => ?_)
                  clear hK K
                  (try simp only [Act.put, List.setIfInBounds_toArray, List.set_cons_zero, List.set_cons_succ])
                  refine wpAnyH_take (i := 11) (v := ?v58) rfl (by kernel_rfl) (by kernel_rfl) (by kernel_rfl) (fun _ _ _ h => h) (Or.inl ⟨by rfl, ?y58⟩) (by assumption) ?r58
                  case y58 => (intro W hSw; (try dsimp only at hSw); go_simp; try with_reducible rfl)
                  (try simp only [Act.put, List.setIfInBounds_toArray, List.set_cons_zero, List.set_cons_succ])
                  refine wpAnyH_ready (rs := [12]) (by kernel_rfl) (by simp) ?_
                  refine AllReadyH.cons rfl (fun K hK => ?_) AllReadyH.nil
                  · go_simp
                    refine hK.out _ _ (by (first | exact HSD.out | exact HSX.out | exact HSW.out | exact HS6.out)) (fun hHeld => ?_)
                    clear hK K
                    (try simp only [Act.put, List.setIfInBounds_toArray, List.set_cons_zero, List.set_cons_succ])
                    refine wpAnyH_done (by kernel_rfl) ?_ _
                    go_wp2_with fail
                    go_roundw
                    case rel => exact ⟨k + 1, _, by omega, by go_num, (by rw [accOf_yes HKK.out, ← HAA.out]; exact HT6.out.congr fun j hj => numS_yes HKK.out j)⟩
                    case measure => simp [intOf]; omega

      · have d1 : ((k : Int) == (st : Int)) = false := by rw [beq_eq_false_iff_ne]; omega
        have HE := Lib.hid he
        clear he
        cases y <;> cases z
        case true.true =>
            have HKK := Lib.hid (show KQ k = true by rw [HKV.out, ← HY.out, ← HZ.out]; simp [HE.out])
            have HK2 := Lib.hid (HT1.out.setNum hlt ((numOf KQ k : Nat) : Int))
            go_upto_region 14 with fail
            generalize hW1 : (wr.setCell ⟨w5.heap.size, k, none⟩ (.int .i64 (-1))).setCell ⟨w5.heap.size, k, none⟩ (.int .i64 ((numOf KQ k : Nat) : Int)) = W1 at HK2 ⊢
            clear hW1
            clear b0 b1 b2 b3 b4 b5 b6 b7 l0 l1 l2 l3 e1 e2 e4 e5 e6 x0 x1 HT1 HT
            have HTD := Lib.hid HK2.out.drew
            have HSD := Lib.hid (HSS.out W1.drew HTD.out.low)
            have HSX := Lib.hid (HSS.out (W1.drew.alloc (.cells #[.bool a] 4)) (HTD.out.alloc _).low)
            obtain ⟨⟨b0, b1, b2⟩, b3, b4, b5⟩ := HTD.out.box
            have b6 : w5.heap.size + 1 < W1.heap.size := HK2.out.ltZ
            have b8 : W1.cell? ⟨w5.heap.size + 1, 1, none⟩ = some (.slice a8 (numOf KQ k) c8) := b1
            refine wp_region_held_drew (S := (fun W => W.cell? ⟨bp, 1, none⟩ = some (.slice (some ⟨ba, oa, none⟩) n ca) ∧ W.cell? ⟨ba, oa + k, none⟩ = some (.bool a))) (by kernel_rfl) ?hS6 (fun hHeld => ?hR6)
            case hS6 => (first | exact HSD.out | exact HSX.out | exact HSW.out | exact HS6.out)
            refine wpAnyH_take (i := 0) (v := ?v59) rfl (by kernel_rfl) (by kernel_rfl) (by kernel_rfl) (fun _ _ _ h => h) (Or.inl ⟨by rfl, ?y59⟩) (by assumption) ?r59
            case y59 => (intro W hSw; (try dsimp only at hSw); go_simp; try with_reducible rfl)
            (try simp only [Act.put, List.setIfInBounds_toArray, List.set_cons_zero, List.set_cons_succ])
            refine wpAnyH_take (i := 2) (v := ?v60) rfl (by kernel_rfl) (by kernel_rfl) (by kernel_rfl) (fun _ _ _ h => h) (Or.inl ⟨by rfl, ?y60⟩) (by assumption) ?r60
            case y60 => (intro W hSw; (try dsimp only at hSw); go_simp; try with_reducible rfl)
            (try simp only [Act.put, List.setIfInBounds_toArray, List.set_cons_zero, List.set_cons_succ])
            refine wpAnyH_take (i := 3) (v := ?v61) rfl (by kernel_rfl) (by kernel_rfl) (by kernel_rfl) (fun _ _ _ h => h) (Or.inl ⟨by rfl, ?y61⟩) (by assumption) ?r61
            case y61 => (intro W hSw; (try dsimp only at hSw); go_simp; try with_reducible rfl)
            (try simp only [Act.put, List.setIfInBounds_toArray, List.set_cons_zero, List.set_cons_succ])
            refine wpAnyH_take (i := 4) (v := ?v62) rfl (by kernel_rfl) (by kernel_rfl) (by kernel_rfl) (fun _ _ _ h => h) (Or.inl ⟨by rfl, ?y62⟩) (by assumption) ?r62
            case y62 => (intro W hSw; (try dsimp only at hSw); go_simp; try with_reducible rfl)
            (try simp only [Act.put, List.setIfInBounds_toArray, List.set_cons_zero, List.set_cons_succ])
            refine wpAnyH_take (i := 5) (v := ?v63) rfl (by kernel_rfl) (by kernel_rfl) (by kernel_rfl) (fun _ _ _ h => h) (Or.inl ⟨by rfl, ?y63⟩) (by assumption) ?r63
            case y63 => (intro W hSw; (try dsimp only at hSw); go_simp; try with_reducible rfl)
            (try simp only [Act.put, List.setIfInBounds_toArray, List.set_cons_zero, List.set_cons_succ])
            refine wpAnyH_take (i := 6) (v := ?v64) rfl (by kernel_rfl) (by kernel_rfl) (by kernel_rfl) (fun _ _ _ h => h) (Or.inl ⟨by rfl, ?y64⟩) (by assumption) ?r64
            case y64 => (intro W hSw; (try dsimp only at hSw); go_simp; try with_reducible rfl)
            (try simp only [Act.put, List.setIfInBounds_toArray, List.set_cons_zero, List.set_cons_succ])
            refine wpAnyH_take (i := 7) (v := ?v65) rfl (by kernel_rfl) (by kernel_rfl) (by kernel_rfl) (fun _ _ _ h => h) (Or.inl ⟨by rfl, ?y65⟩) (by assumption) ?r65
            case y65 => (intro W hSw; (try dsimp only at hSw); go_simp; try with_reducible rfl)
            (try simp only [Act.put, List.setIfInBounds_toArray, List.set_cons_zero, List.set_cons_succ])
            refine wpAnyH_take (i := 8) (v := ?v66) rfl (by kernel_rfl) (by kernel_rfl) (by kernel_rfl) (fun _ _ _ h => h) (Or.inl ⟨by rfl, ?y66⟩) (by assumption) ?r66
            case y66 => (intro W hSw; (try dsimp only at hSw); go_simp; try with_reducible rfl)
            (try simp only [Act.put, List.setIfInBounds_toArray, List.set_cons_zero, List.set_cons_succ])
            refine wpAnyH_ready (rs := [1, 9]) (by kernel_rfl) (by simp) ?_
            refine AllReadyH.cons rfl (fun K hK => ?_) (AllReadyH.cons rfl (fun K hK => ?_) AllReadyH.nil)
            · go_simp
              refine hK.out _ _ (by (first | exact HSD.out | exact HSX.out | exact HSW.out | exact HS6.out)) (fun hHeld => ?_)
              clear hK K
              (try simp only [Act.put, List.setIfInBounds_toArray, List.set_cons_zero, List.set_cons_succ])
              refine wpAnyH_ready (rs := [9]) (by kernel_rfl) (by simp) ?_
              refine AllReadyH.cons rfl (fun K hK => ?_) AllReadyH.nil
              · go_simp
                refine hK.out _ _ (by (first | exact HSD.out | exact HSX.out | exact HSW.out | exact HS6.out)) (fun hHeld => ?_)
                clear hK K
                (try simp only [Act.put, List.setIfInBounds_toArray, List.set_cons_zero, List.set_cons_succ])
                refine wpAnyH_ready (rs := [10]) (by kernel_rfl) (by simp) ?_
                refine AllReadyH.cons rfl (fun K hK => ?_) AllReadyH.nil
                · (refine step_push (by rfl) _ _ 22 (by rfl) 4 (.bool false) 1 Try.underlying22 info4 (by decide) (by decide) w5.heap.size (.slice a8 (numOf KQ k) c8) _ (.bool a) HTD.out.bld.acc HTD.out.size (by rfl) HLEN.out (by rfl) _ (by rfl) (by rfl) ?_; intro v6 w6 hp6; obtain ⟨a6, n6, c6, rfl, -⟩ := hp6.lst.shape'; obtain ⟨⟨u0, u1, u2⟩, ⟨u3, u4, u5⟩, u6⟩ := HTD.out.obA hp6; have HSW := Lib.hid (HSS.out w6 (HTD.out.lowA hp6)); have HT6 := Lib.hid (HTD.out.pushA hp6); have HS6 := Lib.hid (HSS.out _ HT6.out.low); clear hp6)
                  refine hK.out _ _ (by (first | exact HSD.out | exact HSX.out | exact HSW.out | exact HS6.out)) (fun hHeld => ?_)
                  clear hK K
                  (try simp only [Act.put, List.setIfInBounds_toArray, List.set_cons_zero, List.set_cons_succ])
                  refine wpAnyH_take (i := 11) (v := ?v67) rfl (by kernel_rfl) (by kernel_rfl) (by kernel_rfl) (fun _ _ _ h => h) (Or.inl ⟨by rfl, ?y67⟩) (by assumption) ?r67
                  case y67 => (intro W hSw; (try dsimp only at hSw); go_simp; try with_reducible rfl)
                  (try simp only [Act.put, List.setIfInBounds_toArray, List.set_cons_zero, List.set_cons_succ])
                  refine wpAnyH_ready (rs := [12]) (by kernel_rfl) (by simp) ?_
                  refine AllReadyH.cons rfl (fun K hK => ?_) AllReadyH.nil
                  · go_simp
                    refine hK.out _ _ (by (first | exact HSD.out | exact HSX.out | exact HSW.out | exact HS6.out)) (fun hHeld => ?_)
                    clear hK K
                    (try simp only [Act.put, List.setIfInBounds_toArray, List.set_cons_zero, List.set_cons_succ])
                    refine wpAnyH_done (by kernel_rfl) ?_ _
                    go_wp2_with fail
                    go_roundw
                    case rel => exact ⟨k + 1, _, by omega, by go_num, (by rw [accOf_yes HKK.out, ← HAA.out]; exact HT6.out.congr fun j hj => numS_yes HKK.out j)⟩
                    case measure => simp [intOf]; omega
            · go_simp
              refine hK.out _ _ (by (first | exact HSD.out | exact HSX.out | exact HSW.out | exact HS6.out)) (fun hHeld => ?_)
              clear hK K
              (try simp only [Act.put, List.setIfInBounds_toArray, List.set_cons_zero, List.set_cons_succ])
              refine wpAnyH_ready (rs := [1]) (by kernel_rfl) (by simp) ?_
              refine AllReadyH.cons rfl (fun K hK => ?_) AllReadyH.nil
              · go_simp
                refine hK.out _ _ (by (first | exact HSD.out | exact HSX.out | exact HSW.out | exact HS6.out)) (fun hHeld => ?_)
                clear hK K
                (try simp only [Act.put, List.setIfInBounds_toArray, List.set_cons_zero, List.set_cons_succ])
                refine wpAnyH_ready (rs := [10]) (by kernel_rfl) (by simp) ?_
                refine AllReadyH.cons rfl (fun K hK => ?_) AllReadyH.nil
                · (refine step_push (by rfl) _ _ 22 (by rfl) 4 (.bool false) 1 Try.underlying22 info4 (by decide) (by decide) w5.heap.size (.slice a8 (numOf KQ k) c8) _ (.bool a) HTD.out.bld.acc HTD.out.size (by rfl) HLEN.out (by rfl) _ (by rfl) (by rfl) ?_; intro v6 w6 hp6; obtain ⟨a6, n6, c6, rfl, -⟩ := hp6.lst.shape'; obtain ⟨⟨u0, u1, u2⟩, ⟨u3, u4, u5⟩, u6⟩ := HTD.out.obA hp6; have HSW := Lib.hid (HSS.out w6 (HTD.out.lowA hp6)); have HT6 := Lib.hid (HTD.out.pushA hp6); have HS6 := Lib.hid (HSS.out _ HT6.out.low); clear hp6)
                  refine hK.out _ _ (by (first | exact HSD.out | exact HSX.out | exact HSW.out | exact HS6.out)) (fun hHeld => ?_)
                  clear hK K
                  (try simp only [Act.put, List.setIfInBounds_toArray, List.set_cons_zero, List.set_cons_succ])
                  refine wpAnyH_take (i := 11) (v := ?v68) rfl (by kernel_rfl) (by kernel_rfl) (by kernel_rfl) (fun _ _ _ h => h) (Or.inl ⟨by rfl, ?y68⟩) (by assumption) ?r68
                  case y68 => (intro W hSw; (try dsimp only at hSw); go_simp; try with_reducible rfl)
                  (try simp only [Act.put, List.setIfInBounds_toArray, List.set_cons_zero, List.set_cons_succ])
                  refine wpAnyH_ready (rs := [12]) (by kernel_rfl) (by simp) ?_
                  refine AllReadyH.cons rfl (fun K hK => ?_) AllReadyH.nil
                  · go_simp
                    refine hK.out _ _ (by (first | exact HSD.out | exact HSX.out | exact HSW.out | exact HS6.out)) (fun hHeld => ?_)
                    clear hK K
                    (try simp only [Act.put, List.setIfInBounds_toArray, List.set_cons_zero, List.set_cons_succ])
                    refine wpAnyH_done (by kernel_rfl) ?_ _
                    go_wp2_with fail
                    go_roundw
                    case rel => exact ⟨k + 1, _, by omega, by go_num, (by rw [accOf_yes HKK.out, ← HAA.out]; exact HT6.out.congr fun j hj => numS_yes HKK.out j)⟩
                    case measure => simp [intOf]; omega

        all_goals
            have HKK := Lib.hid (show KQ k = false by rw [HKV.out, ← HY.out, ← HZ.out]; simp [HE.out])
            go_wp2
            go_roundw
            case rel => exact ⟨k + 1, _, by omega, by go_num, (by rw [accOf_no HKK.out]; exact HT1.out.congr fun j hj => numS_no HKK.out j)⟩
            case measure => simp [intOf]; omega
    · obtain rfl : n = k := by omega
      have e8 := hT.cell hsn
      rw [numS_all hsn HKST.out] at e8
      have HTS := Lib.hid (HT.out.setStart (numOf KQ st : Nat))
      have q5 : bp < w5.heap.size + 1 := by omega
      clear hT hk
      go_wp2_with fail
      clear b0 b1 b2 b3 b4 b5 b6 b7 x0 x1 x2 l0 l1 l2 l3 e8 q1 q2 q3 q4 q5
      go_loopw [9] (fun v9 wr => ∃ (k : Nat) (vn' : Value), k ≤ q ∧ v9 = .int .i64 k ∧ Tm w5 w5.heap.size w5.heap.size (w5.heap.size + 1) n (numS KQ n) (numOf KQ st : Nat) (.slice a8 (numOf KQ n) c8) vn' (accOf KQ ta n) (edgOf KQ (te.take k)) wr) (fun v9 _ => q - (intOf v9).toNat)
      case atStart => exact ⟨0, _, Nat.zero_le _, rfl, HTS.out⟩
      case round =>
        obtain ⟨k, vn', hk, rfl, hT⟩ := hrel
        obtain ⟨an, nn, cn, rfl, HNN⟩ := hT.bld.edg.shape'
        have HT2 := Lib.hid hT
        have l0 : bp < wr.heap.size := by have := hT.size; have := HBP.out; have := HLO.out.1; omega
        obtain ⟨x0, x1, x2⟩ := HPC.out _ (HKW.out _ hT.low)
        clear HTS HT
        by_cases hlt : k < q
        · obtain ⟨rfl, hbbB⟩ := HAB.out (by omega)
          have h4 := HC.out _ (Kp.base (HKW.out _ hT.low)) k hlt
          have hi4 := HIN.out k (by rw [← HQ.out]; exact hlt)
          have hyes := fun h => edgOf_yes (K := KQ) (es := te) (k := k) (by rw [← HQ.out]; exact hlt) h
          have hno := fun h => edgOf_no (K := KQ) (es := te) (k := k) (by rw [← HQ.out]; exact hlt) h
          obtain ⟨x, hx⟩ : ∃ x, x = te.getD k noE := ⟨_, rfl⟩
          rw [← hx] at h4 hi4 hyes hno
          clear hx
          obtain ⟨d0, d1, d2, d3⟩ := h4
          obtain ⟨xs, xd, xi, xo⟩ := x
          simp only at d0 d1 d2 d3 hi4
          obtain ⟨i0, i1, i2, i3⟩ := hi4
          obtain ⟨p, rfl⟩ := Int.eq_ofNat_of_zero_le i0
          obtain ⟨r, rfl⟩ := Int.eq_ofNat_of_zero_le i2
          have hp : p < n := by omega
          have hr : r < n := by omega
          have lbb : bb < wr.heap.size := by have := HBB.out; have := hT.size; have := HLO.out.1; omega
          have HYES := Lib.hid hyes
          have HNO := Lib.hid hno
          have HT3 := Lib.hid (HT2.out.alloc (boxE ⟨(p : Nat), (r : Nat), xi, xo⟩))
          have f1 := hT.cell hp
          have f2 := hT.cell hr
          have f3 := hT.ltG
          clear hyes hno hT i0 i1 i2 i3
          obtain ⟨y, hy⟩ : ∃ y, y = KQ p := ⟨_, rfl⟩
          obtain ⟨z, hz⟩ : ∃ z, z = KQ r := ⟨_, rfl⟩
          have HY := Lib.hid hy
          have HZ := Lib.hid hz
          clear hy hz
          cases y <;> cases z
          case true.true =>
            obtain ⟨np, hnp⟩ : ∃ np, np = numOf KQ p := ⟨_, rfl⟩
            obtain ⟨nr, hnr⟩ : ∃ nr, nr = numOf KQ r := ⟨_, rfl⟩
            have HEE := Lib.hid (show edgOf KQ (te.take (k + 1)) = edgOf KQ (te.take k) ++ [⟨(np : Nat), (nr : Nat), xi, xo⟩] by
              rw [HYES.out (by show (KQ p && KQ r) = true; rw [← HY.out, ← HZ.out]; rfl), hnp, hnr]; rfl)
            rw [numS_all hp HY.out.symm, ← hnp] at f1
            rw [numS_all hr HZ.out.symm, ← hnr] at f2
            have j1 : (0 : Int) ≤ (np : Int) := Int.natCast_nonneg _
            have j2 : (0 : Int) ≤ (nr : Int) := Int.natCast_nonneg _
            have HNP := Lib.hid hnp
            have HNR := Lib.hid hnr
            clear hnp hnr
            have HLE := Lib.hid (show (edgOf KQ (te.take k)).length ≤ 100000000 by have h1 := edgOf_length KQ (te.take k); rw [List.length_take] at h1; omega)
            have HROW := Lib.hid (show ∀ b, (Value.slice an nn cn).ownBlock = some b → b < wr.heap.size from fun b hb => HT2.out.bld.edg.lt hb)
            have hbx := heap_alloc_new wr (boxE ⟨(p : Nat), (r : Nat), xi, xo⟩)
            obtain ⟨t0, -⟩ := cell_of_block hbx 0
            obtain ⟨t1, -⟩ := cell_of_block hbx 1
            obtain ⟨t2, -⟩ := cell_of_block hbx 2
            obtain ⟨t3, -⟩ := cell_of_block hbx 3
            simp only [List.getElem?_toArray, List.getElem?_cons_zero, List.getElem?_cons_succ] at t0 t1 t2 t3
            have hN1 : wr.heap.size < (wr.alloc (boxE ⟨(p : Nat), (r : Nat), xi, xo⟩)).heap.size := by rw [size_alloc']; omega
            have hN2 : w5.heap.size + 1 ≠ wr.heap.size := by have := HT2.out.ltZ; omega
            clear hbx
            go_upto_region 21 with fail
            clear d0 d1 d2 d3 f1 f2 f3 l0 lbb x0 x1 x2
            generalize hW1 : wr.alloc (.cells #[.int .i64 (p : Nat), .int .i64 (r : Nat), .string xi, .string xo] 50) = W1 at HT3 t0 t1 t2 t3 hN1 ⊢
            clear hW1
            generalize hN0 : wr.heap.size = N0 at HROW t0 t1 t2 t3 hN1 hN2 ⊢
            clear hN0 HT2
            have HSS := Lib.hid (show ∀ W, (∀ i, W.cell? ⟨N0, i, none⟩ = W1.cell? ⟨N0, i, none⟩) → Tm w5 w5.heap.size w5.heap.size (w5.heap.size + 1) n (numS KQ n) (numOf KQ st : Nat) (.slice a8 (numOf KQ n) c8) (.slice an nn cn) (accOf KQ ta n) (edgOf KQ (te.take k)) W → (fun W => (W.cell? ⟨N0, 0, none⟩ = some (.int .i64 (p : Nat)) ∧ W.cell? ⟨N0, 1, none⟩ = some (.int .i64 (r : Nat)) ∧ W.cell? ⟨N0, 2, none⟩ = some (.string xi) ∧ W.cell? ⟨N0, 3, none⟩ = some (.string xo)) ∧ W.cell? ⟨w5.heap.size, p, none⟩ = some (.int .i64 (np : Nat)) ∧ W.cell? ⟨w5.heap.size, r, none⟩ = some (.int .i64 (nr : Nat))) W from fun W he hT => by
              refine ⟨⟨(he 0).trans t0, (he 1).trans t1, (he 2).trans t2, (he 3).trans t3⟩, ?_, ?_⟩
              · rw [hT.cell hp, numS_all hp HY.out.symm, ← HNP.out]
              · rw [hT.cell hr, numS_all hr HZ.out.symm, ← HNR.out])
            have HTD := Lib.hid HT3.out.drew
            have HSD := Lib.hid (HSS.out W1.drew (fun _ => rfl) HTD.out)
            have HSX := Lib.hid (HSS.out (W1.drew.alloc (boxE ⟨(np : Nat), (nr : Nat), xi, xo⟩)) (fun i => World.cell?_alloc_lt _ _ _ hN1) (HTD.out.alloc _))
            have HSG := Lib.hid (show ∀ v6 w6, PushedE W1.drew w6 w5.heap.size (.slice an nn cn) v6 (edgOf KQ (te.take k)) ⟨(np : Nat), (nr : Nat), xi, xo⟩ → (fun W => (W.cell? ⟨N0, 0, none⟩ = some (.int .i64 (p : Nat)) ∧ W.cell? ⟨N0, 1, none⟩ = some (.int .i64 (r : Nat)) ∧ W.cell? ⟨N0, 2, none⟩ = some (.string xi) ∧ W.cell? ⟨N0, 3, none⟩ = some (.string xo)) ∧ W.cell? ⟨w5.heap.size, p, none⟩ = some (.int .i64 (np : Nat)) ∧ W.cell? ⟨w5.heap.size, r, none⟩ = some (.int .i64 (nr : Nat))) w6 from fun v6 w6 hp6 => by
              have e0 : w6.heap[N0]? = W1.drew.heap[N0]? := hp6.grow.block N0 hN1 (fun e => by have := HROW.out N0 e.symm; omega)
              have he : ∀ i, w6.cell? ⟨N0, i, none⟩ = W1.cell? ⟨N0, i, none⟩ := fun i => by unfold World.cell?; rw [e0]; rfl
              have hg : ∀ i, i < n → w6.cell? ⟨w5.heap.size, i, none⟩ = some (.int .i64 (numS KQ n i)) := fun i hi => Tm.cellE HTD.out hp6 hi
              refine ⟨⟨(he 0).trans t0, (he 1).trans t1, (he 2).trans t2, (he 3).trans t3⟩, ?_, ?_⟩
              · rw [hg p hp, numS_all hp HY.out.symm, ← HNP.out]
              · rw [hg r hr, numS_all hr HZ.out.symm, ← HNR.out])
            have HSZ := Lib.hid (show ∀ (v6 : Value) (w6 : World), (fun W => (W.cell? ⟨N0, 0, none⟩ = some (.int .i64 (p : Nat)) ∧ W.cell? ⟨N0, 1, none⟩ = some (.int .i64 (r : Nat)) ∧ W.cell? ⟨N0, 2, none⟩ = some (.string xi) ∧ W.cell? ⟨N0, 3, none⟩ = some (.string xo)) ∧ W.cell? ⟨w5.heap.size, p, none⟩ = some (.int .i64 (np : Nat)) ∧ W.cell? ⟨w5.heap.size, r, none⟩ = some (.int .i64 (nr : Nat))) w6 → Tm w5 w5.heap.size w5.heap.size (w5.heap.size + 1) n (numS KQ n) (numOf KQ st : Nat) (.slice a8 (numOf KQ n) c8) v6 (accOf KQ ta n) (edgOf KQ (te.take k) ++ [⟨(np : Nat), (nr : Nat), xi, xo⟩]) (w6.setCell ⟨w5.heap.size + 1, 2, none⟩ v6) → (fun W => (W.cell? ⟨N0, 0, none⟩ = some (.int .i64 (p : Nat)) ∧ W.cell? ⟨N0, 1, none⟩ = some (.int .i64 (r : Nat)) ∧ W.cell? ⟨N0, 2, none⟩ = some (.string xi) ∧ W.cell? ⟨N0, 3, none⟩ = some (.string xo)) ∧ W.cell? ⟨w5.heap.size, p, none⟩ = some (.int .i64 (np : Nat)) ∧ W.cell? ⟨w5.heap.size, r, none⟩ = some (.int .i64 (nr : Nat))) (w6.setCell ⟨w5.heap.size + 1, 2, none⟩ v6) from fun v6 w6 hS hT => by
              have he : ∀ i, (w6.setCell ⟨w5.heap.size + 1, 2, none⟩ v6).cell? ⟨N0, i, none⟩ = w6.cell? ⟨N0, i, none⟩ := fun i => by
                unfold World.cell?
                rw [Below.heap_setCell _ _ _ _ (fun e => hN2 e.symm)]
              refine ⟨⟨(he 0).trans hS.1.1, (he 1).trans hS.1.2.1, (he 2).trans hS.1.2.2.1, (he 3).trans hS.1.2.2.2⟩, ?_, ?_⟩
              · rw [hT.cell hp, numS_all hp HY.out.symm, ← HNP.out]
              · rw [hT.cell hr, numS_all hr HZ.out.symm, ← HNR.out])
            obtain ⟨⟨b0, b1, b2⟩, b3, b4, b5⟩ := HTD.out.box
            have b6 : w5.heap.size + 1 < W1.heap.size := HT3.out.ltZ
            have b7 : w5.heap.size < W1.heap.size := HT3.out.ltG
            have b8 : W1.cell? ⟨w5.heap.size + 1, 2, none⟩ = some (.slice an nn cn) := b2
            clear t0 t1 t2 t3
            refine wp_region_held_drew (S := (fun W => (W.cell? ⟨N0, 0, none⟩ = some (.int .i64 (p : Nat)) ∧ W.cell? ⟨N0, 1, none⟩ = some (.int .i64 (r : Nat)) ∧ W.cell? ⟨N0, 2, none⟩ = some (.string xi) ∧ W.cell? ⟨N0, 3, none⟩ = some (.string xo)) ∧ W.cell? ⟨w5.heap.size, p, none⟩ = some (.int .i64 (np : Nat)) ∧ W.cell? ⟨w5.heap.size, r, none⟩ = some (.int .i64 (nr : Nat)))) (by kernel_rfl) ?hS1 (fun hHeld => ?hR1)
            case hS1 => (first | exact HSD.out | exact HSX.out | exact HSW.out | exact HS6.out)
            refine wpAnyH_take (i := 0) (v := ?v1) rfl (by kernel_rfl) (by kernel_rfl) (by kernel_rfl) (fun _ _ _ h => h) (Or.inl ⟨by rfl, ?y1⟩) (by assumption) ?r1
            case y1 => (intro W hSw; (try dsimp only at hSw); go_simp; try with_reducible rfl)
            (try simp only [Act.put, List.setIfInBounds_toArray, List.set_cons_zero, List.set_cons_succ])
            refine wpAnyH_take (i := 2) (v := ?v2) rfl (by kernel_rfl) (by kernel_rfl) (by kernel_rfl) (fun _ _ _ h => h) (Or.inl ⟨by rfl, ?y2⟩) (by assumption) ?r2
            case y2 => (intro W hSw; (try dsimp only at hSw); go_simp; try with_reducible rfl)
            (try simp only [Act.put, List.setIfInBounds_toArray, List.set_cons_zero, List.set_cons_succ])
            refine wpAnyH_take (i := 3) (v := ?v3) rfl (by kernel_rfl) (by kernel_rfl) (by kernel_rfl) (fun _ _ _ h => h) (Or.inl ⟨by rfl, ?y3⟩) (by assumption) ?r3
            case y3 => (intro W hSw; (try dsimp only at hSw); go_simp; try with_reducible rfl)
            (try simp only [Act.put, List.setIfInBounds_toArray, List.set_cons_zero, List.set_cons_succ])
            refine wpAnyH_take (i := 4) (v := ?v4) rfl (by kernel_rfl) (by kernel_rfl) (by kernel_rfl) (fun _ _ _ h => h) (Or.inl ⟨by rfl, ?y4⟩) (by assumption) ?r4
            case y4 => (intro W hSw; (try dsimp only at hSw); go_simp; try with_reducible rfl)
            (try simp only [Act.put, List.setIfInBounds_toArray, List.set_cons_zero, List.set_cons_succ])
            refine wpAnyH_take (i := 5) (v := ?v5) rfl (by kernel_rfl) (by kernel_rfl) (by kernel_rfl) (fun _ _ _ h => h) (Or.inl ⟨by rfl, ?y5⟩) (by assumption) ?r5
            case y5 => (intro W hSw; (try dsimp only at hSw); go_simp; try with_reducible rfl)
            (try simp only [Act.put, List.setIfInBounds_toArray, List.set_cons_zero, List.set_cons_succ])
            refine wpAnyH_take (i := 6) (v := ?v6) rfl (by kernel_rfl) (by kernel_rfl) (by kernel_rfl) (fun _ _ _ h => h) (Or.inl ⟨by rfl, ?y6⟩) (by assumption) ?r6
            case y6 => (intro W hSw; (try dsimp only at hSw); go_simp; try with_reducible rfl)
            (try simp only [Act.put, List.setIfInBounds_toArray, List.set_cons_zero, List.set_cons_succ])
            refine wpAnyH_take (i := 7) (v := ?v7) rfl (by kernel_rfl) (by kernel_rfl) (by kernel_rfl) (fun _ _ _ h => h) (Or.inl ⟨by rfl, ?y7⟩) (by assumption) ?r7
            case y7 => (intro W hSw; (try dsimp only at hSw); go_simp; try with_reducible rfl)
            (try simp only [Act.put, List.setIfInBounds_toArray, List.set_cons_zero, List.set_cons_succ])
            refine wpAnyH_take (i := 8) (v := ?v8) rfl (by kernel_rfl) (by kernel_rfl) (by kernel_rfl) (fun _ _ _ h => h) (Or.inl ⟨by rfl, ?y8⟩) (by assumption) ?r8
            case y8 => (intro W hSw; (try dsimp only at hSw); go_simp; try with_reducible rfl)
            (try simp only [Act.put, List.setIfInBounds_toArray, List.set_cons_zero, List.set_cons_succ])
            refine wpAnyH_take (i := 9) (v := ?v9) rfl (by kernel_rfl) (by kernel_rfl) (by kernel_rfl) (fun _ _ _ h => h) (Or.inl ⟨by rfl, ?y9⟩) (by assumption) ?r9
            case y9 => (intro W hSw; (try dsimp only at hSw); go_simp; try with_reducible rfl)
            (try simp only [Act.put, List.setIfInBounds_toArray, List.set_cons_zero, List.set_cons_succ])
            refine wpAnyH_take (i := 10) (v := ?v10) rfl (by kernel_rfl) (by kernel_rfl) (by kernel_rfl) (fun _ _ _ h => h) (Or.inl ⟨by rfl, ?y10⟩) (by assumption) ?r10
            case y10 => (intro W hSw; (try dsimp only at hSw); go_simp; try with_reducible rfl)
            (try simp only [Act.put, List.setIfInBounds_toArray, List.set_cons_zero, List.set_cons_succ])
            refine wpAnyH_take (i := 11) (v := ?v11) rfl (by kernel_rfl) (by kernel_rfl) (by kernel_rfl) (fun _ _ _ h => h) (Or.inl ⟨by rfl, ?y11⟩) (by assumption) ?r11
            case y11 => (intro W hSw; (try dsimp only at hSw); go_simp; try with_reducible rfl)
            (try simp only [Act.put, List.setIfInBounds_toArray, List.set_cons_zero, List.set_cons_succ])
            refine wpAnyH_take (i := 12) (v := ?v12) rfl (by kernel_rfl) (by kernel_rfl) (by kernel_rfl) (fun _ _ _ h => h) (Or.inl ⟨by rfl, ?y12⟩) (by assumption) ?r12
            case y12 => (intro W hSw; (try dsimp only at hSw); go_simp; try with_reducible rfl)
            (try simp only [Act.put, List.setIfInBounds_toArray, List.set_cons_zero, List.set_cons_succ])
            refine wpAnyH_take (i := 13) (v := ?v13) rfl (by kernel_rfl) (by kernel_rfl) (by kernel_rfl) (fun _ _ _ h => h) (Or.inl ⟨by rfl, ?y13⟩) (by assumption) ?r13
            case y13 => (intro W hSw; (try dsimp only at hSw); go_simp; try with_reducible rfl)
            (try simp only [Act.put, List.setIfInBounds_toArray, List.set_cons_zero, List.set_cons_succ])
            refine wpAnyH_take (i := 14) (v := ?v14) rfl (by kernel_rfl) (by kernel_rfl) (by kernel_rfl) (fun _ _ _ h => h) (Or.inl ⟨by rfl, ?y14⟩) (by assumption) ?r14
            case y14 => (intro W hSw; (try dsimp only at hSw); go_simp; try with_reducible rfl)
            (try simp only [Act.put, List.setIfInBounds_toArray, List.set_cons_zero, List.set_cons_succ])
            refine wpAnyH_take (i := 15) (v := ?v15) rfl (by kernel_rfl) (by kernel_rfl) (by kernel_rfl) (fun _ _ _ h => h) (Or.inl ⟨by rfl, ?y15⟩) (by assumption) ?r15
            case y15 => (intro W hSw; (try dsimp only at hSw); go_simp; try with_reducible rfl)
            (try simp only [Act.put, List.setIfInBounds_toArray, List.set_cons_zero, List.set_cons_succ])
            refine wpAnyH_take (i := 16) (v := ?v16) rfl (by kernel_rfl) (by kernel_rfl) (by kernel_rfl) (fun _ _ _ h => h) (Or.inl ⟨by rfl, ?y16⟩) (by assumption) ?r16
            case y16 => (intro W hSw; (try dsimp only at hSw); go_simp; try with_reducible rfl)
            (try simp only [Act.put, List.setIfInBounds_toArray, List.set_cons_zero, List.set_cons_succ])
            refine wpAnyH_ready (rs := [1, 17]) (by kernel_rfl) (by simp) ?_
            refine AllReadyH.cons rfl (fun K hK => ?_) (AllReadyH.cons rfl (fun K hK => ?_) AllReadyH.nil)
            · go_simp
              refine hK.out _ _ (by (first | exact HSD.out | exact HSX.out | exact HSW.out | exact HS6.out)) (fun hHeld => ?_)
              clear hK K
              (try simp only [Act.put, List.setIfInBounds_toArray, List.set_cons_zero, List.set_cons_succ])
              refine wpAnyH_ready (rs := [17]) (by kernel_rfl) (by simp) ?_
              refine AllReadyH.cons rfl (fun K hK => ?_) AllReadyH.nil
              · go_simp
                refine hK.out _ _ (by (first | exact HSD.out | exact HSX.out | exact HSW.out | exact HS6.out)) (fun hHeld => ?_)
                clear hK K
                (try simp only [Act.put, List.setIfInBounds_toArray, List.set_cons_zero, List.set_cons_succ])
                refine wpAnyH_ready (rs := [18]) (by kernel_rfl) (by simp) ?_
                refine AllReadyH.cons rfl (fun K hK => ?_) AllReadyH.nil
                · (refine step_pushE (by rfl) _ _ (by rfl) w5.heap.size (.slice an nn cn) _ (⟨(np : Nat), (nr : Nat), xi, xo⟩ : E) HTD.out.bld.edg HTD.out.size HLE.out (by rfl) _ (by rfl) (by rfl) ?_; intro v6 w6 hp6; obtain ⟨a6, n6, c6, rfl, -⟩ := hp6.lst.shape'; obtain ⟨⟨u0, u1, u2⟩, ⟨u3, u4, u5⟩, u6⟩ := HTD.out.obE hp6; have HSW := Lib.hid (HSG.out _ _ hp6); have HT6 := Lib.hid (HTD.out.pushE hp6); have HS6 := Lib.hid (HSZ.out _ _ HSW.out HT6.out); clear hp6)
                  refine hK.out _ _ (by (first | exact HSD.out | exact HSX.out | exact HSW.out | exact HS6.out)) (fun hHeld => ?_)
                  clear hK K
                  (try simp only [Act.put, List.setIfInBounds_toArray, List.set_cons_zero, List.set_cons_succ])
                  refine wpAnyH_take (i := 19) (v := ?v17) rfl (by kernel_rfl) (by kernel_rfl) (by kernel_rfl) (fun _ _ _ h => h) (Or.inl ⟨by rfl, ?y17⟩) (by assumption) ?r17
                  case y17 => (intro W hSw; (try dsimp only at hSw); go_simp; try with_reducible rfl)
                  (try simp only [Act.put, List.setIfInBounds_toArray, List.set_cons_zero, List.set_cons_succ])
                  refine wpAnyH_ready (rs := [20]) (by kernel_rfl) (by simp) ?_
                  refine AllReadyH.cons rfl (fun K hK => ?_) AllReadyH.nil
                  · go_simp
                    refine hK.out _ _ (by (first | exact HSD.out | exact HSX.out | exact HSW.out | exact HS6.out)) (fun hHeld => ?_)
                    clear hK K
                    (try simp only [Act.put, List.setIfInBounds_toArray, List.set_cons_zero, List.set_cons_succ])
                    refine wpAnyH_done (by kernel_rfl) ?_ _
                    go_wp2_with fail
                    go_roundw
                    case rel => exact ⟨k + 1, _, by omega, by go_num, by rw [HEE.out]; exact HT6.out⟩
                    case measure => simp [intOf]; omega
            · go_simp
              refine hK.out _ _ (by (first | exact HSD.out | exact HSX.out | exact HSW.out | exact HS6.out)) (fun hHeld => ?_)
              clear hK K
              (try simp only [Act.put, List.setIfInBounds_toArray, List.set_cons_zero, List.set_cons_succ])
              refine wpAnyH_ready (rs := [1]) (by kernel_rfl) (by simp) ?_
              refine AllReadyH.cons rfl (fun K hK => ?_) AllReadyH.nil
              · go_simp
                refine hK.out _ _ (by (first | exact HSD.out | exact HSX.out | exact HSW.out | exact HS6.out)) (fun hHeld => ?_)
                clear hK K
                (try simp only [Act.put, List.setIfInBounds_toArray, List.set_cons_zero, List.set_cons_succ])
                refine wpAnyH_ready (rs := [18]) (by kernel_rfl) (by simp) ?_
                refine AllReadyH.cons rfl (fun K hK => ?_) AllReadyH.nil
                · (refine step_pushE (by rfl) _ _ (by rfl) w5.heap.size (.slice an nn cn) _ (⟨(np : Nat), (nr : Nat), xi, xo⟩ : E) HTD.out.bld.edg HTD.out.size HLE.out (by rfl) _ (by rfl) (by rfl) ?_; intro v6 w6 hp6; obtain ⟨a6, n6, c6, rfl, -⟩ := hp6.lst.shape'; obtain ⟨⟨u0, u1, u2⟩, ⟨u3, u4, u5⟩, u6⟩ := HTD.out.obE hp6; have HSW := Lib.hid (HSG.out _ _ hp6); have HT6 := Lib.hid (HTD.out.pushE hp6); have HS6 := Lib.hid (HSZ.out _ _ HSW.out HT6.out); clear hp6)
                  refine hK.out _ _ (by (first | exact HSD.out | exact HSX.out | exact HSW.out | exact HS6.out)) (fun hHeld => ?_)
                  clear hK K
                  (try simp only [Act.put, List.setIfInBounds_toArray, List.set_cons_zero, List.set_cons_succ])
                  refine wpAnyH_take (i := 19) (v := ?v18) rfl (by kernel_rfl) (by kernel_rfl) (by kernel_rfl) (fun _ _ _ h => h) (Or.inl ⟨by rfl, ?y18⟩) (by assumption) ?r18
                  case y18 => (intro W hSw; (try dsimp only at hSw); go_simp; try with_reducible rfl)
                  (try simp only [Act.put, List.setIfInBounds_toArray, List.set_cons_zero, List.set_cons_succ])
                  refine wpAnyH_ready (rs := [20]) (by kernel_rfl) (by simp) ?_
                  refine AllReadyH.cons rfl (fun K hK => ?_) AllReadyH.nil
                  · go_simp
                    refine hK.out _ _ (by (first | exact HSD.out | exact HSX.out | exact HSW.out | exact HS6.out)) (fun hHeld => ?_)
                    clear hK K
                    (try simp only [Act.put, List.setIfInBounds_toArray, List.set_cons_zero, List.set_cons_succ])
                    refine wpAnyH_done (by kernel_rfl) ?_ _
                    go_wp2_with fail
                    go_roundw
                    case rel => exact ⟨k + 1, _, by omega, by go_num, by rw [HEE.out]; exact HT6.out⟩
                    case measure => simp [intOf]; omega
          all_goals
            have HEE := Lib.hid (show edgOf KQ (te.take (k + 1)) = edgOf KQ (te.take k) by
              exact HNO.out (by show (KQ p && KQ r) = false; rw [← HY.out, ← HZ.out]; rfl))
            first
              | (rw [numS_out hp HY.out.symm] at f1
                 clear f2)
              | (rw [numS_all hp HY.out.symm] at f1
                 rw [numS_out hr HZ.out.symm] at f2
                 have j1 : (0 : Int) ≤ ((numOf KQ p : Nat) : Int) := Int.natCast_nonneg _)
            go_wp2
            go_roundw
            case rel => exact ⟨k + 1, _, by omega, by go_num, by rw [HEE.out]; exact HT3.out⟩
            case measure => simp [intOf]; omega
        · obtain rfl : k = q := by omega
          have hKQ : te.take k = te := by rw [List.take_of_length_le (by rw [← HQ.out]; exact Nat.le_refl _)]
          have HKQ := Lib.hid hKQ
          have HTR := Lib.hid (show trimOf s1 s2 ⟨(st : Nat), ta, te⟩ = ⟨(numOf KQ st : Nat), accOf KQ ta n, edgOf KQ te⟩ by rw [HKE.out, HN.out]; rfl)
          obtain ⟨⟨b0, b1, b2⟩, b3, b4, b5⟩ := hT.box
          have b6 := hT.ltZ
          have hrs := Kp.res (HKW.out _ hT.low)
          have r0 := (cell_of_block hrs 0).1
          have r1 := (cell_of_block hrs 1).1
          have r2 := (cell_of_block hrs 2).1
          have r3 := (cell_of_block hrs 0).2
          have r4 := (cell_of_block hrs 1).2
          have r5 := (cell_of_block hrs 2).2
          simp at r0 r1 r2
          have l1 : w.heap.size < wr.heap.size := by have := hT.size; have := HLO.out.1; omega
          have l2 : w.heap.size < w5.heap.size := by have := HLO.out.1; omega
          clear hT hKQ hk hlt hrs
          go_wp2
          obtain ⟨o0, o1, o2⟩ := put3_cells (a := .int .i64 (numOf KQ st : Nat)) (b := .slice a8 (numOf KQ n) c8) (c := .slice an nn cn) (Kp.res (HKW.out _ HT2.out.low))
          refine bodyPost_ret (v := .agg #[.int .i64 (numOf KQ st : Nat), .slice a8 (numOf KQ n) c8, .slice an nn cn]) (by simp [results, Try.results65, go_sem, o0, o1, o2]) rfl ⟨s1, s2, .slice a8 (numOf KQ n) c8, .slice an nn cn, HF1.out, HF2.out, by rw [HTR.out], ?_, ?_⟩
          · rw [HTR.out]
            refine BuiltT.mono (B := w5.heap.size) (BuiltT.put3 ⟨HT2.out.bld.acc, by have := HT2.out.bld.edg; rwa [HKQ.out] at this, edgOf_fits HFT.out, by have := edgOf_length KQ te; have := HQ.out; simp only; omega⟩ l2) (by omega)
          · exact put3_below (Kp.base (HKW.out _ HT2.out.low)) (Nat.le_refl _)
end Go.Proofs.Ytjoiaenkmmmmpaa.TrimSpec
