
/- What the program's TrimTransducer answers: a transducer in memory of its own.
   Conditions: the transducer is read as XEdg's text says, and is valid. -/
import Derived.Test.YtjoiaenkmmmmpaaTrimKit
import Derived.Deep.DeepCutAuto
import Derived.Deep.CutBlock
namespace Go.Proofs.Ytjoiaenkmmmmpaa.TrimImpl
set_option linter.unusedVariables false
set_option linter.unusedSimpArgs false
set_option maxRecDepth 100000
open Go.RowKit Mem Copy Rel Heap MarkRow Edg EdgCopy EdgEq TrHeap TrLawKit TrValid TrImplValid TurnImpl TurnSpec CloneB TrReach TrReached TrimKit

theorem inB_le {x lo hi : Int} (h : Columns.inB x lo hi = true) : lo ≤ x ∧ x ≤ hi := by
  unfold Columns.inB at h
  exact of_decide_eq_true h
theorem inside {n : Nat} {es : List E} (h : es.all (edgeOk n) = true) : Inside n es := by
  intro k hk
  have h1 := edge_ok h k hk
  unfold edgeOk at h1
  simp only [Bool.and_eq_true] at h1
  obtain ⟨⟨⟨h2, h3⟩, -⟩, -⟩ := h1
  have h4 := inB_le h2
  have h5 := inB_le h3
  exact ⟨h4.1, by omega, h5.1, by omega⟩
theorem inside_flip {n : Nat} {es : List E} (h : Inside n es) : Inside n (es.map flipD) := by
  intro k hk
  rw [List.length_map] at hk
  have e : (es.map flipD).getD k noE = flipD (es.getD k noE) := by simp [List.getD, hk]
  rw [e]
  obtain ⟨h1, h2, h3, h4⟩ := h k hk
  exact ⟨h3, h4, h1, h2⟩
theorem fits_flipD {es : List E} (h : ∀ i, i < es.length → (es.getD i noE).Fits) : ∀ i, i < (es.map flipD).length → ((es.map flipD).getD i noE).Fits := by
  intro i hi
  rw [List.length_map] at hi
  have e : (es.map flipD).getD i noE = flipD (es.getD i noE) := by simp [List.getD, hi]
  rw [e]
  exact h i hi

/-- Flags in a block of their own, apart from the list of accepting states. -/
structure Tk (C H n : Nat) (F : Nat → Bool) (va : Value) (W : World) : Prop where
  lst : Lst W C 4 (.slice (some ⟨H, 0, none⟩) n n) ((List.range n).map fun i => Value.bool (F i))
  apart : va.ownBlock ≠ some H
section
variable {W0 W W' : World} {C G Z H n : Nat} {N : Nat → Int} {F : Nat → Bool} {s : Int} {va va' vn vn' : Value} {A : List Bool} {es : List E} {a : Bool} {x : E}
theorem Tk.lt (h : Tk C H n F va W) : H < W.heap.size := h.lst.lt rfl
theorem Tk.ge (h : Tk C H n F va W) : C ≤ H := h.lst.ge rfl
theorem Tk.cell (h : Tk C H n F va W) {i : Nat} (hi : i < n) : W.cell? ⟨H, i, none⟩ = some (.bool (F i)) := by
  rw [h.lst.cellOf (i := i) (by simpa using hi)]; simp
theorem Tk.free (h : Tk C H n F va W) (i : Nat) : W.frozen? ⟨H, i, none⟩ = false := h.lst.free i
theorem Tk.below (h : Tk C H n F va W) (hb : Below W.heap.size W W') : Tk C H n F va W' := ⟨h.lst.below hb, h.apart⟩
theorem Tk.alloc (h : Tk C H n F va W) (o : Obj) : Tk C H n F va (W.alloc o) := h.below ((Below.refl _ _).alloc (Nat.le_refl _) _)
theorem Tk.congr {F' : Nat → Bool} (h : Tk C H n F va W) (e : ∀ i, i < n → F i = F' i) : Tk C H n F' va W := by
  have : ((List.range n).map fun i => Value.bool (F i)) = (List.range n).map fun i => Value.bool (F' i) := List.map_congr_left fun i hi => by rw [e i (List.mem_range.1 hi)]
  exact ⟨this ▸ h.lst, h.apart⟩
theorem Tk.set (h : Tk C H n F va W) {i : Nat} (hi : i < n) (b : Bool) : Tk C H n (fun j => if j = i then b else F j) va (W.setCell ⟨H, i, none⟩ (.bool b)) := by
  have h1 := h.lst.set (i := i) (by simpa using hi) (.bool b)
  have e : ((List.range n).map fun j => Value.bool (F j)).set i (.bool b) = (List.range n).map fun j => Value.bool (if j = i then b else F j) := by
    apply List.ext_getElem
    · simp
    · intro j h2 h3
      rw [List.getElem_set]
      by_cases e : i = j
      · subst e; simp
      · rw [if_neg e]; simp; intro h; exact absurd h.symm e
  rw [e] at h1
  exact ⟨h1, h.apart⟩
theorem Tk.setNum (h : Tk C H n F va W) (t : Tm W0 C G Z n N s va vn A es W) (i : Nat) (u : Value) : Tk C H n F va (W.setCell ⟨G, i, none⟩ u) :=
  ⟨h.lst.setOther (fun e => Lst.apart t.num h.lst (by decide) G rfl e) _, h.apart⟩
theorem Tm.setKept (t : Tm W0 C G Z n N s va vn A es W) (h : Tk C H n F va W) (i : Nat) (u : Value) : Tm W0 C G Z n N s va vn A es (W.setCell ⟨H, i, none⟩ u) :=
  ⟨t.low.setCell (p := ⟨H, i, none⟩) h.ge _, t.num.setOther (fun e => Lst.apart h.lst t.num (by decide) H rfl e) _,
    t.bld.acc.setOther h.apart _, t.bld.edg.setOther (fun e => apartL h.lst t.bld.edg (by decide) H e rfl) _,
    (Below.heap_setCell _ _ _ _ (fun e => block_apart h.lst t.bld.at_ (by decide) (by rw [e]; rfl))).trans t.bld.at_, t.bld.obB⟩
theorem Tk.neZ (h : Tk C H n F va W) (t : Tm W0 C G Z n N s va vn A es W) : H ≠ Z := fun e => block_apart h.lst t.bld.at_ (by decide) (by rw [← e]; rfl)
theorem Tk.neG (h : Tk C H n F va W) (t : Tm W0 C G Z n N s va vn A es W) : H ≠ G := fun e => Lst.apart h.lst t.num (by decide) H rfl (by rw [e]; rfl)
theorem Tm.neZ (t : Tm W0 C G Z n N s va vn A es W) : G ≠ Z := fun e => block_apart t.num t.bld.at_ (by decide) (by rw [← e]; rfl)
theorem Tk.pushA (h : Tk C H n F va W) (t : Tm W0 C G Z n N s va vn A es W) (hp : Pushed W W' C 4 va va' (A.map Value.bool) (.bool a)) : Tk C H n F va' (W'.setCell ⟨Z, 1, none⟩ va') := by
  have hl : Lst W' C 4 (.slice (some ⟨H, 0, none⟩) n n) _ := h.lst.grown hp.grow fun k hk e => h.apart (hk.trans e.symm)
  refine ⟨hl.setOther (block_apart hl (BldT.obA t.bld hp) (by decide)) _, fun e => ?_⟩
  rcases hp.at_ with h1 | ⟨g, h1, h2⟩
  · exact h.apart (h1 ▸ e)
  · rw [h1] at e
    have e : g = H := Option.some.inj e
    have := h.lt
    omega
theorem Tk.pushE (h : Tk C H n F va W) (t : Tm W0 C G Z n N s va vn A es W) (hp : PushedE W W' C vn vn' es x) : Tk C H n F va (W'.setCell ⟨Z, 2, none⟩ vn') := by
  have hl : Lst W' C 4 (.slice (some ⟨H, 0, none⟩) n n) _ := h.lst.grown hp.grow fun k hk => apartL h.lst t.bld.edg (by decide) k hk
  exact ⟨hl.setOther (block_apart hl (BldT.obE t.bld hp) (by decide)) _, h.apart⟩
theorem Tk.setStart (h : Tk C H n F va W) (t : Tm W0 C G Z n N s va vn A es W) (u : Value) : Tk C H n F va (W.setCell ⟨Z, 0, none⟩ u) :=
  ⟨h.lst.setOther (block_apart h.lst t.bld.at_ (by decide)) _, h.apart⟩
end

/-- The flags and the numbers behind k rounds. -/
def flagI (K : Nat → Bool) (k j : Nat) : Bool := decide (j < k) && K j
def numI (K : Nat → Bool) (k j : Nat) : Int := if flagI K k j = true then (numOf K j : Nat) else 0
theorem flagI_set (K : Nat → Bool) (k j : Nat) : (if j = k then K k else flagI K k j) = flagI K (k + 1) j := by
  unfold flagI
  by_cases e : j = k
  · subst e; rw [if_pos rfl, decide_eq_true (Nat.lt_succ_self j)]; rfl
  · rw [if_neg e]
    have : decide (j < k) = decide (j < k + 1) := decide_eq_decide.2 ⟨fun h => by omega, fun h => by omega⟩
    rw [this]
theorem flagI_all (K : Nat → Bool) {n j : Nat} (h : j < n) : flagI K n j = K j := by unfold flagI; rw [decide_eq_true h]; rfl
theorem flagI_self (K : Nat → Bool) (k : Nat) : flagI K k k = false := by unfold flagI; rw [decide_eq_false (Nat.lt_irrefl k)]; rfl
theorem numI_yes {K : Nat → Bool} {k : Nat} (h : K k = true) (j : Nat) : (if j = k then ((numOf K k : Nat) : Int) else numI K k j) = numI K (k + 1) j := by
  unfold numI
  rw [← flagI_set K k j]
  by_cases e : j = k
  · subst e; rw [if_pos rfl, if_pos rfl, h]; rfl
  · rw [if_neg e, if_neg e]
theorem numI_no {K : Nat → Bool} {k : Nat} (h : K k = false) (j : Nat) : numI K k j = numI K (k + 1) j := by
  unfold numI
  rw [← flagI_set K k j]
  by_cases e : j = k
  · subst e; rw [if_pos rfl, h, flagI_self]
  · rw [if_neg e]
theorem numI_all {K : Nat → Bool} {n j : Nat} (h : j < n) (hk : K j = true) : numI K n j = (numOf K j : Nat) := by unfold numI; rw [flagI_all K h, hk]; rfl

/-- The block of a list that the program has made is not an elder one. -/
theorem lstE_apart {W : World} {B g : Nat} {v : Value} {es : List E} (h : LstE W B v es) (hg : g < B) (b o l c : Nat) (e : v = .slice (some ⟨b, o, none⟩) l c) : b ≠ g := by
  rcases h.2 with ⟨rfl, h0⟩ | ⟨k, cap, cur, rfl, hbg, -⟩
  · cases e
  · injection e with e1 _ _
    injection e1 with e2
    injection e2 with e3
    omega
theorem rep_map (n : Nat) : (List.replicate n false).map Value.bool = List.replicate n (Value.bool false) := by simp

set_option maxHeartbeats 8000000 in
theorem trimmed (v : Value) (t : T) (w : World) (B : Nat) (h : TrAt w B v t) (hB : B ≤ w.heap.size) (hok : okT t = true) :
    Calls Try.prog 66 #[v] w fun e w' => ∃ (s1 s2 : List Bool) (ua un : Value), Fix t.edges ((List.replicate t.accept.length false).set t.start.toNat true) s1 ∧ Fix (t.edges.map flipD) t.accept s2 ∧
      e = .returned (.agg #[.int .i64 (trimOf s1 s2 t).start, ua, un]) ∧ BuiltT w' w.heap.size ua un (trimOf s1 s2 t).accept (trimOf s1 s2 t).edges ∧ Below w.heap.size w w' := by
  obtain ⟨hn1, hn2, hq, hs0, hs1, hall⟩ := ok_parts hok
  have hins := inside hall
  obtain ⟨va, vn, rfl, hacc, hed⟩ := h
  obtain ⟨ts, ta, te⟩ := t
  simp only at hn1 hn2 hq hs0 hs1 hins hacc hed ⊢
  obtain ⟨st, rfl⟩ := Int.eq_ofNat_of_zero_le hs0
  rw [Int.toNat_natCast]
  have HFT := Lib.hid (show ∀ i, i < te.length → (te.getD i noE).Fits by obtain ⟨_, _, _, _, _, _, _, hc⟩ := hed; exact fun i hi => (hc i hi).2)
  have HED := Lib.hid (fun W (hb : Below w.heap.size w W) => (show Edges W B vn te from hed.below hb hB))
  have HAC := Lib.hid (fun W (hb : Below w.heap.size w W) => (show Bools W B va ta from hacc.below hb hB))
  have hed' := hed
  obtain ⟨ab, bb, ob, cb, rfl, -, hbb, hcb⟩ := hed'
  obtain ⟨aa, ba, oa, ca, rfl, -, haa, hca⟩ := hacc
  obtain ⟨rfl, hab⟩ := haa (by omega)
  have HNE := Lib.hid (show ∀ g, w.heap.size ≤ g → 0 < te.length → ∀ b o l c, Value.slice ab te.length cb = .slice (some ⟨b, o, none⟩) l c → b ≠ g from fun g hg h0 b o l c e => by
    obtain ⟨rfl, hlt⟩ := hbb h0
    injection e with e1 _ _
    injection e1 with e2
    injection e2 with e3
    omega)
  obtain ⟨n, hnn⟩ : ∃ n, n = ta.length := ⟨_, rfl⟩
  obtain ⟨q, hqq⟩ : ∃ q, q = te.length := ⟨_, rfl⟩
  rw [← hnn] at hn1 hn2 hs1 hins HAC hca ⊢
  rw [← hqq] at hq hbb HED HNE hcb ⊢
  have HN := Lib.hid hnn
  have HQ := Lib.hid hqq
  have HIN := Lib.hid hins
  have HBB := Lib.hid hB
  have HA := Lib.hid (fun W (hb : Below w.heap.size w W) (i : Nat) (hi : i < n) => (show W.cell? ⟨ba, oa + i, none⟩ = some (.bool (ta.getD i false)) from (hb.cell (p := ⟨ba, oa + i, none⟩) (by show ba < _; omega)).trans (hca i hi)))
  have HC := Lib.hid (fun W (hb : Below w.heap.size w W) (i : Nat) (hi : i < q) => (show At4 W bb (ob + i * 4) (te.getD i noE) from ((hcb i hi).1).below hb (by have := (hbb (by omega)).2; omega)))
  have HBL := Lib.hid hab
  have HAB := Lib.hid hbb
  have hsn : st < n := by omega
  have hmk := run_make_row' (P := Try.prog) 22 4 (.bool false) 1 Try.underlying22 info4 rfl .i64 .i64 n (by omega) (by omega)
  have hmi := run_make_row' (P := Try.prog) 95 2 (.int .i64 0) 8 Try.underlying95 info2 rfl .i64 .i64 n (by omega) (by omega)
  have HK1 := Lib.hid (show K2 w #[.int .i64 st, .slice (some ⟨ba, oa, none⟩) n ca, .slice ab q cb] (((w.alloc (.cells #[.int .i64 st, .slice (some ⟨ba, oa, none⟩) n ca, .slice ab q cb] 30)).alloc (.cells #[Value.int .i64 0, .slice none 0 0, .slice none 0 0] 30)).alloc (.cells (madeCells #[Value.bool false] n) 4)) from
    (Below.refl _ _).alloc (by rw [K2.size2]; exact Nat.le_refl _) _)
  have HL1 := Lib.hid (show Lst (((w.alloc (.cells #[.int .i64 st, .slice (some ⟨ba, oa, none⟩) n ca, .slice ab q cb] 30)).alloc (.cells #[Value.int .i64 0, .slice none 0 0, .slice none 0 0] 30)).alloc (.cells (madeCells #[Value.bool false] n) 4)) (w.heap.size + 2) 4 (.slice (some ⟨w.heap.size + 1 + 1, 0, none⟩) n n) ((List.replicate n false).map Value.bool) from by
    have h1 := Lst.made ((w.alloc (.cells #[.int .i64 st, .slice (some ⟨ba, oa, none⟩) n ca, .slice ab q cb] 30)).alloc (.cells #[Value.int .i64 0, .slice none 0 0, .slice none 0 0] 30)) (w.heap.size + 2) 4 (.bool false) n (by rw [K2.size2]; exact Nat.le_refl _) (by unfold maxLen; omega)
    rw [K2.size2, ← rep_map] at h1
    exact h1)
  clear hall hs0 hbb haa hnn hqq hins hok hB hed hca hcb hab
  go_enter Try.func66, Try.ntmps66
  go_upto_region 2 with fail
  generalize hW1 : (((w.alloc (.cells #[.int .i64 (st : Int), .slice (some ⟨ba, oa, none⟩) n ca, .slice ab q cb] 30)).alloc (.cells #[Value.int .i64 0, .slice none 0 0, .slice none 0 0] 30)).alloc (.cells (madeCells #[Value.bool false] n) 4)) = W1 at HK1 HL1 ⊢
  clear hW1
  generalize hg1 : w.heap.size + 1 + 1 = g1 at HL1 ⊢
  have hg1' : w.heap.size + 2 ≤ g1 := by omega
  clear hg1
  have HSP0 := Lib.hid (show Sp W1 w.heap.size g1 n n (List.replicate n false) W1 from ⟨HL1.out.mono (by omega), grown_refl _ _, List.length_replicate ..⟩)
  have c0 := HSP0.out.cell hsn
  have c1 := HSP0.out.free st
  have c2 := HSP0.out.lt
  obtain ⟨x0, x1, x2⟩ := K2.boxc HK1.out
  have c3 : w.heap.size < W1.heap.size := by have := K2.size HK1.out; omega
  have HSP1 := Lib.hid (show Sp (W1.setCell ⟨g1, st, none⟩ (.bool true)) w.heap.size g1 n n ((List.replicate n false).set st true) (W1.setCell ⟨g1, st, none⟩ (.bool true)) from ⟨(HSP0.out.set hsn true).lst, grown_refl _ _, (HSP0.out.set hsn true).len⟩)
  have HK2 := Lib.hid (show K2 w #[.int .i64 st, .slice (some ⟨ba, oa, none⟩) n ca, .slice ab q cb] (W1.setCell ⟨g1, st, none⟩ (.bool true)) from Below.setCell HK1.out (p := ⟨g1, st, none⟩) hg1' _)
  clear HL1 HSP0 HK1
  go_wp2_with fail
  refine (spread te _ _ n g1 n _ w.heap.size ((HED.out _ (K2.base HK2.out)).mono (by have := K2.size HK2.out; have := HBB.out; omega)) (by rw [← HQ.out]; exact HNE.out g1 (by omega)) HSP1.out HIN.out (by rw [← HQ.out]; omega) (by omega)).mono ?_
  rintro e w2 ⟨rfl, s1, hf1, hsp⟩
  have HF1 := Lib.hid hf1
  have HSP2 := Lib.hid hsp
  have HK3 := Lib.hid (show K2 w #[.int .i64 st, .slice (some ⟨ba, oa, none⟩) n ca, .slice ab q cb] w2 from below_grown HK2.out hsp.grow (K2.size HK2.out) (fun k e => by cases e; exact hg1'))
  clear hf1 hsp HSP1 HK2 c0 c1 c2 c3 x0 x1 x2
  obtain ⟨x0, x1, x2⟩ := K2.boxc HK3.out
  have c3 : w.heap.size < w2.heap.size := by have := K2.size HK3.out; omega
  go_wp2_with fail
  refine (cloneB ta (.slice (some ⟨ba, oa, none⟩) n ca) _ B (HAC.out _ (K2.base HK3.out)) (by have := K2.size HK3.out; have := HBB.out; omega) (by rw [← HN.out]; omega) (by rw [← HN.out]; omega)).mono ?_
  rintro e w3 ⟨a7, c7, rfl, hl7, hb⟩
  rw [← HN.out] at hl7 ⊢
  obtain ⟨g2, rfl, hg2⟩ := Lst.addr hl7 (by rw [List.length_map, ← HN.out]; omega)
  have HSP2s := Lib.hid (show w.heap.size ≤ w2.heap.size by have := K2.size HK3.out; omega)
  have HSP2t := Lib.hid (show (W1.setCell ⟨g1, st, none⟩ (.bool true)).heap.size ≤ g2 from Nat.le_trans HSP2.out.grow.size (hl7.ge (k := g2) rfl))
  have hg12 : g1 < g2 := by have h1 : w2.heap.size ≤ g2 := hl7.ge (k := g2) rfl; have h2 := HSP2.out.lt; omega
  have HSA := Lib.hid (show Sp (W1.setCell ⟨g1, st, none⟩ (.bool true)) w.heap.size g1 n n s1 w3 from ⟨HSP2.out.lst.below hb, grown_below HSP2.out.grow hb, HSP2.out.len⟩)
  have HK4 := Lib.hid (K2.step HK3.out hb)
  have HL7 := Lib.hid hl7
  clear hl7 hb HSP2 HK3 c3 x0 x1 x2
  obtain ⟨x0, x1, x2⟩ := K2.boxc HK4.out
  have c3 : w.heap.size < w3.heap.size := by have := K2.size HK4.out; omega
  go_wp2_with fail
  refine (backwards te _ _ B (HED.out _ (K2.base HK4.out)) (by have := K2.size HK4.out; have := HBB.out; omega) (by rw [← HQ.out]; omega)).mono ?_
  rintro e w4 ⟨vb, rfl, hlb, hb⟩
  have HLB := Lib.hid (show Edges w4 w4.heap.size vb (te.map flipD) from by
    have h1 := hlb.rowE
    exact RowE.edges h1 (by rw [List.length_map, ← HQ.out]; unfold maxLen; omega) (fits_flipD HFT.out) _ (Nat.le_refl _))
  have hnb : 0 < (te.map flipD).length → ∀ b o l c, vb = .slice (some ⟨b, o, none⟩) l c → b ≠ g2 := fun _ b o l c e => lstE_apart hlb hg2 b o l c e
  have HNB := Lib.hid hnb
  have HSA4 := Lib.hid (show Sp (W1.setCell ⟨g1, st, none⟩ (.bool true)) w.heap.size g1 n n s1 w4 from ⟨HSA.out.lst.below hb, grown_below HSA.out.grow hb, HSA.out.len⟩)
  have HK5 := Lib.hid (K2.step HK4.out hb)
  have HS4 := Lib.hid (show Sp w4 w.heap.size g2 n c7 ta w4 from ⟨(HL7.out.below hb).mono (by have := HSP2s.out; omega), grown_refl _ _, HN.out.symm⟩)
  clear hb hlb hnb HSA HK4 HL7 c3 x0 x1 x2
  obtain ⟨x0, x1, x2⟩ := K2.boxc HK5.out
  have c3 : w.heap.size < w4.heap.size := by have := K2.size HK5.out; omega
  go_wp2_with fail
  refine (spread (te.map flipD) vb ta n g2 c7 w4 w.heap.size HLB.out HNB.out HS4.out (inside_flip HIN.out) (by rw [List.length_map, ← HQ.out]; omega) (by omega)).mono ?_
  rintro e w5 ⟨rfl, s2, hf2, hsp⟩
  have HF2 := Lib.hid hf2
  have HSB := Lib.hid hsp
  have HSA5 := Lib.hid (show Sp (W1.setCell ⟨g1, st, none⟩ (.bool true)) w.heap.size g1 n n s1 w5 from
    have e1 : w5.heap[g1]? = w4.heap[g1]? := hsp.grow.block g1 HSA4.out.lt (fun e => by have := Option.some.inj e; omega)
    ⟨HSA4.out.lst.of_block (fun k hk => by cases hk; exact e1), ⟨hsp.grow.os.trans HSA4.out.grow.os, hsp.grow.tape.trans HSA4.out.grow.tape, hsp.grow.output.trans HSA4.out.grow.output, Nat.le_trans HSA4.out.grow.size hsp.grow.size, fun k hk hne => by
      by_cases e : some k = some g2
      · have e := Option.some.inj e; have := HSP2t.out; omega
      · exact (hsp.grow.block k (Nat.lt_of_lt_of_le hk HSA4.out.grow.size) e).trans (HSA4.out.grow.block k hk hne)⟩, HSA4.out.len⟩)
  have HK6 := Lib.hid (show K2 w #[.int .i64 st, .slice (some ⟨ba, oa, none⟩) n ca, .slice ab q cb] w5 from below_grown HK5.out hsp.grow (K2.size HK5.out) (fun k e => by cases e; omega))
  clear hf2 hsp HSA4 HK5 HS4 HNB HLB c3 x0 x1 x2
  obtain ⟨K, hK⟩ : ∃ K, K = keepOf s1 s2 st := ⟨_, rfl⟩
  have HKV := Lib.hid (show ∀ i, K i = ((s1.getD i false && s2.getD i false) || decide (i = st)) by intro i; rw [hK]; rfl)
  have HKE := Lib.hid hK
  have HKST := Lib.hid (show K st = true by rw [HKV.out]; simp)
  clear hK
  have hSz : w.heap.size + 2 ≤ w5.heap.size := K2.size HK6.out
  have hL1 : g1 < w5.heap.size := HSA5.out.lt
  have hL2 : g2 < w5.heap.size := HSB.out.lt
  have HLO := Lib.hid (show w.heap.size + 2 ≤ w5.heap.size ∧ g1 < w5.heap.size ∧ g2 < w5.heap.size from ⟨hSz, hL1, hL2⟩)
  have HKW := Lib.hid (fun W (hb : Below w5.heap.size w5 W) => (show K2 w #[.int .i64 st, .slice (some ⟨ba, oa, none⟩) n ca, .slice ab q cb] W from K2.step HK6.out hb))
  have HCA := Lib.hid (fun W (hb : Below w5.heap.size w5 W) i (hi : i < n) => (show W.cell? ⟨g1, i, none⟩ = some (.bool (s1.getD i false)) from (hb.cell (p := ⟨g1, i, none⟩) hL1).trans (HSA5.out.cell hi)))
  have HCB := Lib.hid (fun W (hb : Below w5.heap.size w5 W) i (hi : i < n) => (show W.cell? ⟨g2, i, none⟩ = some (.bool (s2.getD i false)) from (hb.cell (p := ⟨g2, i, none⟩) hL2).trans (HSB.out.cell hi)))
  have HBO := Lib.hid (show Tm w5 w5.heap.size (w5.heap.size + 1) w5.heap.size n (numI K 0) 0 (.slice none 0 0) (.slice none 0 0) (accOf K ta 0) [] ((w5.alloc (.cells #[Value.int .i64 0, .slice none 0 0, .slice none 0 0] 30)).alloc (.cells (madeCells #[Value.int .i64 0] n) 2)) from by
    have h1 := Lst.made (w5.alloc (.cells #[Value.int .i64 0, .slice none 0 0, .slice none 0 0] 30)) w5.heap.size 2 (.int .i64 0) n (by rw [size_alloc']; omega) (by unfold maxLen; omega)
    rw [size_alloc', tv_rep] at h1
    refine ⟨((Below.refl _ _).alloc (Nat.le_refl _) _).alloc (by rw [size_alloc']; omega) _, ?_, BldT.alloc ⟨Lst.nil _ _ _, LstE.nil _ _, heap_alloc_new _ _, Nat.le_refl _⟩ _⟩
    have e : numI K 0 = fun _ => 0 := by funext j; unfold numI flagI; rw [decide_eq_false (Nat.not_lt_zero j)]; rfl
    rw [e]
    exact h1)
  have HB1 := Lib.hid (HBO.out.alloc (.cells (madeCells #[Value.bool false] n) 4))
  have HFO := Lib.hid (show Tk w5.heap.size (w5.heap.size + 1 + 1) n (flagI K 0) (.slice none 0 0) (((w5.alloc (.cells #[Value.int .i64 0, .slice none 0 0, .slice none 0 0] 30)).alloc (.cells (madeCells #[Value.int .i64 0] n) 2)).alloc (.cells (madeCells #[Value.bool false] n) 4)) from by
    have h1 := Lst.made ((w5.alloc (.cells #[Value.int .i64 0, .slice none 0 0, .slice none 0 0] 30)).alloc (.cells (madeCells #[Value.int .i64 0] n) 2)) w5.heap.size 4 (.bool false) n (by rw [size_alloc', size_alloc']; omega) (by unfold maxLen; omega)
    rw [size_alloc', size_alloc'] at h1
    refine ⟨?_, fun e => by cases e⟩
    have e : ((List.range n).map fun i => Value.bool (flagI K 0 i)) = List.replicate n (Value.bool false) := by
      apply List.ext_getElem
      · simp
      · intro i h2 h3
        simp [flagI]
    rw [e]
    exact h1)
  obtain ⟨x0, x1, x2⟩ := K2.boxc HK6.out
  have c3 : w.heap.size < w5.heap.size := by omega
  have c4 : w.heap.size < w5.heap.size + 1 := by omega
  have c5 : w.heap.size < w5.heap.size + 1 + 1 := by omega
  clear HBO HSA5 HSB HK6 hSz hL1 hL2
  go_wp2_with fail
  clear x0 x1 x2 c3 c4 c5 hmk hmi
  go_loopw [8, 9, 44] (fun _ _ v44 wr => ∃ (k : Nat) (va' : Value), k ≤ n ∧ v44 = .int .i64 k ∧ Tm w5 w5.heap.size (w5.heap.size + 1) w5.heap.size n (numI K k) 0 va' (.slice none 0 0) (accOf K ta k) [] wr ∧ Tk w5.heap.size (w5.heap.size + 1 + 1) n (flagI K k) va' wr) (fun _ _ v44 _ => n - (intOf v44).toNat)
  case atStart => exact ⟨0, _, Nat.zero_le _, rfl, HB1.out, HFO.out⟩
  case round =>
    obtain ⟨k, va', hk, rfl, hT, hF⟩ := hrel
    obtain ⟨a8, n8, c8, rfl, HN8⟩ := hT.bld.acc.shape'
    obtain rfl : n8 = numOf K k := by rw [HN8.out, List.length_map, accOf_length]
    have HT := Lib.hid hT
    have HTK := Lib.hid hF
    obtain ⟨⟨b0, b1, b2⟩, b3, b4, b5⟩ := hT.box
    have b6 := hT.ltZ
    have b7 := hT.ltG
    have b8 := hF.lt
    obtain ⟨x0, x1, x2⟩ := K2.boxc (HKW.out _ hT.low)
    have l0 : w.heap.size < wr.heap.size := by have := HLO.out.1; omega
    have l1 : g1 < wr.heap.size := by have := HLO.out.2.1; omega
    have l2 : g2 < wr.heap.size := by have := HLO.out.2.2; omega
    have l3 : ba < wr.heap.size := by have := HLO.out.1; have := HBL.out; have := HBB.out; omega
    clear HB1 HFO
    by_cases hlt : k < n
    · have e1 := HCA.out _ hT.low k hlt
      have e2 := HCB.out _ hT.low k hlt
      have e3 := HA.out _ (K2.base (HKW.out _ hT.low)) k hlt
      have e4 := hF.cell hlt
      rw [flagI_self] at e4
      have e5 := hF.free k
      have e6 := hT.cell hlt
      have e7 := hT.free k
      have HLEN := Lib.hid (show ((accOf K ta k).map Value.bool).length ≤ 100000000 by rw [List.length_map, accOf_length]; have := numOf_le K k; omega)
      obtain ⟨y, hy⟩ : ∃ y, y = s1.getD k false := ⟨_, rfl⟩
      obtain ⟨z, hz⟩ : ∃ z, z = s2.getD k false := ⟨_, rfl⟩
      obtain ⟨a, ha⟩ : ∃ a, a = ta.getD k false := ⟨_, rfl⟩
      obtain ⟨m0, hm0⟩ : ∃ m0, m0 = numI K k k := ⟨_, rfl⟩
      rw [← hy] at e1
      rw [← hz] at e2
      rw [← ha] at e3
      rw [← hm0] at e6
      have HY := Lib.hid hy
      have HZ := Lib.hid hz
      have HAA := Lib.hid ha
      clear hy hz ha hm0 hT hF
      by_cases he : k = st
      · have d1 : ((k : Int) == (st : Int)) = true := by rw [he]; simp
        have HE := Lib.hid he
        clear he
        cases y <;> cases z
        all_goals
            have HKK := Lib.hid (show K k = true by rw [HKV.out, ← HY.out, ← HZ.out]; simp [HE.out])
            have HK1 := Lib.hid (Tm.setKept HT.out HTK.out k (.bool true))
            have HF1 := Lib.hid (HTK.out.set hlt true)
            have HK2 := Lib.hid (HK1.out.setNum hlt ((numOf K k : Nat) : Int))
            have HF2 := Lib.hid (HF1.out.setNum HK1.out k (.int .i64 ((numOf K k : Nat) : Int)))
            have HNN := Lib.hid (show ((wr.setCell ⟨w5.heap.size + 1 + 1, k, none⟩ (.bool true)).setCell ⟨w5.heap.size + 1, k, none⟩ (.int .i64 ((numOf K k : Nat) : Int))).heap.size = wr.heap.size by simp [World.setCell])
            go_wp2_with (at_builtin; refine wpList_push rfl _ _ 22 rfl 4 (.bool false) 1 Try.underlying22 info4 (by decide) (by decide) w5.heap.size (.slice a8 (numOf K k) c8) _ (.bool a) HK2.out.bld.acc HK2.out.size rfl HLEN.out rfl wr.heap.size rfl HNN.out ?_; intro v5 w6 hp5; obtain ⟨a5, n5, c5, rfl, HN5⟩ := hp5.lst.shape'; obtain ⟨⟨u0, u1, u2⟩, ⟨u3, u4, u5⟩, u6⟩ := HK2.out.obA hp5; have HT5 := Lib.hid (HK2.out.pushA hp5); have HF5 := Lib.hid (HF2.out.pushA HK2.out hp5); clear hp5)
            go_roundw
            case rel =>
              refine ⟨k + 1, _, by omega, by go_num, (by rw [accOf_yes HKK.out, ← HAA.out]; exact HT5.out.congr fun j hj => numI_yes HKK.out j), (HF5.out.congr fun j hj => by rw [← flagI_set K k j, HKK.out])⟩
            case measure => simp [intOf]; omega
      · have d1 : ((k : Int) == (st : Int)) = false := by rw [beq_eq_false_iff_ne]; omega
        have HE := Lib.hid he
        clear he
        cases y <;> cases z
        case true.true =>
            have HKK := Lib.hid (show K k = true by rw [HKV.out, ← HY.out, ← HZ.out]; simp [HE.out])
            have HK1 := Lib.hid (Tm.setKept HT.out HTK.out k (.bool true))
            have HF1 := Lib.hid (HTK.out.set hlt true)
            have HK2 := Lib.hid (HK1.out.setNum hlt ((numOf K k : Nat) : Int))
            have HF2 := Lib.hid (HF1.out.setNum HK1.out k (.int .i64 ((numOf K k : Nat) : Int)))
            have HNN := Lib.hid (show ((wr.setCell ⟨w5.heap.size + 1 + 1, k, none⟩ (.bool true)).setCell ⟨w5.heap.size + 1, k, none⟩ (.int .i64 ((numOf K k : Nat) : Int))).heap.size = wr.heap.size by simp [World.setCell])
            go_wp2_with (at_builtin; refine wpList_push rfl _ _ 22 rfl 4 (.bool false) 1 Try.underlying22 info4 (by decide) (by decide) w5.heap.size (.slice a8 (numOf K k) c8) _ (.bool a) HK2.out.bld.acc HK2.out.size rfl HLEN.out rfl wr.heap.size rfl HNN.out ?_; intro v5 w6 hp5; obtain ⟨a5, n5, c5, rfl, HN5⟩ := hp5.lst.shape'; obtain ⟨⟨u0, u1, u2⟩, ⟨u3, u4, u5⟩, u6⟩ := HK2.out.obA hp5; have HT5 := Lib.hid (HK2.out.pushA hp5); have HF5 := Lib.hid (HF2.out.pushA HK2.out hp5); clear hp5)
            go_roundw
            case rel =>
              refine ⟨k + 1, _, by omega, by go_num, (by rw [accOf_yes HKK.out, ← HAA.out]; exact HT5.out.congr fun j hj => numI_yes HKK.out j), (HF5.out.congr fun j hj => by rw [← flagI_set K k j, HKK.out])⟩
            case measure => simp [intOf]; omega
        all_goals
            have HKK := Lib.hid (show K k = false by rw [HKV.out, ← HY.out, ← HZ.out]; simp [HE.out])
            have HK1 := Lib.hid (Tm.setKept HT.out HTK.out k (.bool false))
            have HF1 := Lib.hid (HTK.out.set hlt false)
            go_wp2
            go_roundw
            case rel =>
              refine ⟨k + 1, _, by omega, by go_num, (by rw [accOf_no HKK.out]; exact HK1.out.congr fun j hj => numI_no HKK.out j), (HF1.out.congr fun j hj => by rw [← flagI_set K k j, HKK.out])⟩
            case measure => simp [intOf]; omega
    · obtain rfl : n = k := by omega
      have e8 := hT.cell hsn
      rw [numI_all hsn HKST.out] at e8
      have e9 : w.heap.size < w5.heap.size := by have := HLO.out.1; omega
      have HTS := Lib.hid (HT.out.setStart (numOf K st : Nat))
      have HFS := Lib.hid (HTK.out.setStart HT.out (.int .i64 (numOf K st : Nat)))
      clear hT hF hk
      go_wp2_with fail
      clear b0 b1 b2 b3 b4 b5 b6 b7 b8 x0 x1 x2 l0 l1 l2 l3 e8
      go_loopw [94] (fun v94 wr => ∃ (k : Nat) (vn' : Value), k ≤ q ∧ v94 = .int .i64 k ∧ Tm w5 w5.heap.size (w5.heap.size + 1) w5.heap.size n (numI K n) (numOf K st : Nat) (.slice a8 (numOf K n) c8) vn' (accOf K ta n) (edgOf K (te.take k)) wr ∧ Tk w5.heap.size (w5.heap.size + 1 + 1) n (flagI K n) (.slice a8 (numOf K n) c8) wr) (fun v94 _ => q - (intOf v94).toNat)
      case atStart => exact ⟨0, _, Nat.zero_le _, rfl, HTS.out, HFS.out⟩
      case round =>
        obtain ⟨k, vn', hk, rfl, hT, hF⟩ := hrel
        obtain ⟨an, nn, cn, rfl, HNN⟩ := hT.bld.edg.shape'
        have HT2 := Lib.hid hT
        have HF2' := Lib.hid hF
        have l0 : w.heap.size < wr.heap.size := by have := hT.size; omega
        clear HTS HFS HT HTK
        by_cases hlt : k < q
        · obtain ⟨rfl, hbbB⟩ := HAB.out (by omega)
          have h4 := HC.out _ (K2.base (HKW.out _ hT.low)) k hlt
          have hi4 := HIN.out k (by rw [← HQ.out]; exact hlt)
          have hyes := fun h => edgOf_yes (K := K) (es := te) (k := k) (by rw [← HQ.out]; exact hlt) h
          have hno := fun h => edgOf_no (K := K) (es := te) (k := k) (by rw [← HQ.out]; exact hlt) h
          obtain ⟨x, hx⟩ : ∃ x, x = te.getD k noE := ⟨_, rfl⟩
          rw [← hx] at h4 hi4 hyes hno
          clear hx
          obtain ⟨d0, d1, d2, d3⟩ := h4
          obtain ⟨xs, xd, xi, xo⟩ := x
          simp only at d0 d1 d2 d3 hi4
          obtain ⟨i0, i1, i2, i3⟩ := hi4
          obtain ⟨p, rfl⟩ := Int.eq_ofNat_of_zero_le i0
          obtain ⟨r, rfl⟩ := Int.eq_ofNat_of_zero_le i2
          have hp : p < n := by omega
          have hr : r < n := by omega
          have lbb : bb < wr.heap.size := by have := HBB.out; omega
          have HYES := Lib.hid hyes
          have HNO := Lib.hid hno
          have HT3 := Lib.hid (HT2.out.alloc (boxE ⟨(p : Nat), (r : Nat), xi, xo⟩))
          have HF3 := Lib.hid (HF2'.out.alloc (boxE ⟨(p : Nat), (r : Nat), xi, xo⟩))
          have f1 := hF.cell hp
          have f2 := hF.cell hr
          rw [flagI_all K hp] at f1
          rw [flagI_all K hr] at f2
          have f3 := hF.lt
          clear hyes hno hT hF i0 i1 i2 i3
          obtain ⟨y, hy⟩ : ∃ y, y = K p := ⟨_, rfl⟩
          obtain ⟨z, hz⟩ : ∃ z, z = K r := ⟨_, rfl⟩
          rw [← hy] at f1
          rw [← hz] at f2
          have HY := Lib.hid hy
          have HZ := Lib.hid hz
          clear hy hz
          cases y <;> cases z
          case true.true =>
            obtain ⟨np, hnp⟩ : ∃ np, np = numOf K p := ⟨_, rfl⟩
            obtain ⟨nr, hnr⟩ : ∃ nr, nr = numOf K r := ⟨_, rfl⟩
            have HEE := Lib.hid (show edgOf K (te.take (k + 1)) = edgOf K (te.take k) ++ [⟨(np : Nat), (nr : Nat), xi, xo⟩] by
              rw [HYES.out (by show (K p && K r) = true; rw [← HY.out, ← HZ.out]; rfl), hnp, hnr]; rfl)
            have m1 := HT3.out.cell hp
            have m2 := HT3.out.cell hr
            rw [numI_all hp HY.out.symm, ← hnp] at m1
            rw [numI_all hr HZ.out.symm, ← hnr] at m2
            have HNP := Lib.hid hnp
            have HNR := Lib.hid hnr
            clear hnp hnr
            have HLE := Lib.hid (show (edgOf K (te.take k)).length ≤ 100000000 by have h1 := edgOf_length K (te.take k); rw [List.length_take] at h1; omega)
            have HROW := Lib.hid (show ∀ b, (Value.slice an nn cn).ownBlock = some b → b < wr.heap.size from fun b hb => HT2.out.bld.edg.lt hb)
            have hbx := heap_alloc_new wr (boxE ⟨(p : Nat), (r : Nat), xi, xo⟩)
            obtain ⟨t0, -⟩ := cell_of_block hbx 0
            obtain ⟨t1, -⟩ := cell_of_block hbx 1
            obtain ⟨t2, -⟩ := cell_of_block hbx 2
            obtain ⟨t3, -⟩ := cell_of_block hbx 3
            simp only [List.getElem?_toArray, List.getElem?_cons_zero, List.getElem?_cons_succ] at t0 t1 t2 t3
            have hN1 : wr.heap.size < (wr.alloc (boxE ⟨(p : Nat), (r : Nat), xi, xo⟩)).heap.size := by rw [size_alloc']; omega
            have hN2 : w5.heap.size ≠ wr.heap.size := by have := HT2.out.ltZ; omega
            clear hbx
            go_upto_region 22 with fail
            clear d0 d1 d2 d3 f1 f2 f3 l0 lbb
            generalize hW1 : wr.alloc (.cells #[.int .i64 (p : Nat), .int .i64 (r : Nat), .string xi, .string xo] 50) = W1 at HT3 HF3 m1 m2 t0 t1 t2 t3 hN1 ⊢
            clear hW1
            generalize hN0 : wr.heap.size = N0 at HROW t0 t1 t2 t3 hN1 hN2 ⊢
            clear hN0 HT2 HF2'
            have HSS := Lib.hid (show ∀ W, (∀ i, W.cell? ⟨N0, i, none⟩ = W1.cell? ⟨N0, i, none⟩) → Tm w5 w5.heap.size (w5.heap.size + 1) w5.heap.size n (numI K n) (numOf K st : Nat) (.slice a8 (numOf K n) c8) (.slice an nn cn) (accOf K ta n) (edgOf K (te.take k)) W → (fun W => (W.cell? ⟨N0, 0, none⟩ = some (.int .i64 (p : Nat)) ∧ W.cell? ⟨N0, 1, none⟩ = some (.int .i64 (r : Nat)) ∧ W.cell? ⟨N0, 2, none⟩ = some (.string xi) ∧ W.cell? ⟨N0, 3, none⟩ = some (.string xo)) ∧ W.cell? ⟨w5.heap.size + 1, p, none⟩ = some (.int .i64 (np : Nat)) ∧ W.cell? ⟨w5.heap.size + 1, r, none⟩ = some (.int .i64 (nr : Nat))) W from fun W he hT => by
              refine ⟨⟨(he 0).trans t0, (he 1).trans t1, (he 2).trans t2, (he 3).trans t3⟩, ?_, ?_⟩
              · rw [hT.cell hp, numI_all hp HY.out.symm, ← HNP.out]
              · rw [hT.cell hr, numI_all hr HZ.out.symm, ← HNR.out])
            have HTD := Lib.hid HT3.out.drew
            have HFD := Lib.hid (HF3.out.below ((Below.refl _ _).drew))
            have HSD := Lib.hid (HSS.out W1.drew (fun _ => rfl) HTD.out)
            have HSX := Lib.hid (HSS.out (W1.drew.alloc (boxE ⟨(np : Nat), (nr : Nat), xi, xo⟩)) (fun i => World.cell?_alloc_lt _ _ _ hN1) (HTD.out.alloc _))
            have HSG := Lib.hid (show ∀ v6 w6, PushedE W1.drew w6 w5.heap.size (.slice an nn cn) v6 (edgOf K (te.take k)) ⟨(np : Nat), (nr : Nat), xi, xo⟩ → (fun W => (W.cell? ⟨N0, 0, none⟩ = some (.int .i64 (p : Nat)) ∧ W.cell? ⟨N0, 1, none⟩ = some (.int .i64 (r : Nat)) ∧ W.cell? ⟨N0, 2, none⟩ = some (.string xi) ∧ W.cell? ⟨N0, 3, none⟩ = some (.string xo)) ∧ W.cell? ⟨w5.heap.size + 1, p, none⟩ = some (.int .i64 (np : Nat)) ∧ W.cell? ⟨w5.heap.size + 1, r, none⟩ = some (.int .i64 (nr : Nat))) w6 from fun v6 w6 hp6 => by
              have e0 : w6.heap[N0]? = W1.drew.heap[N0]? := hp6.grow.block N0 hN1 (fun e => by have := HROW.out N0 e.symm; omega)
              have he : ∀ i, w6.cell? ⟨N0, i, none⟩ = W1.cell? ⟨N0, i, none⟩ := fun i => by unfold World.cell?; rw [e0]; rfl
              have hg : ∀ i, i < n → w6.cell? ⟨w5.heap.size + 1, i, none⟩ = some (.int .i64 (numI K n i)) := fun i hi => Tm.cellE HTD.out hp6 hi
              refine ⟨⟨(he 0).trans t0, (he 1).trans t1, (he 2).trans t2, (he 3).trans t3⟩, ?_, ?_⟩
              · rw [hg p hp, numI_all hp HY.out.symm, ← HNP.out]
              · rw [hg r hr, numI_all hr HZ.out.symm, ← HNR.out])
            have HSZ := Lib.hid (show ∀ (v6 : Value) (w6 : World), (fun W => (W.cell? ⟨N0, 0, none⟩ = some (.int .i64 (p : Nat)) ∧ W.cell? ⟨N0, 1, none⟩ = some (.int .i64 (r : Nat)) ∧ W.cell? ⟨N0, 2, none⟩ = some (.string xi) ∧ W.cell? ⟨N0, 3, none⟩ = some (.string xo)) ∧ W.cell? ⟨w5.heap.size + 1, p, none⟩ = some (.int .i64 (np : Nat)) ∧ W.cell? ⟨w5.heap.size + 1, r, none⟩ = some (.int .i64 (nr : Nat))) w6 → Tm w5 w5.heap.size (w5.heap.size + 1) w5.heap.size n (numI K n) (numOf K st : Nat) (.slice a8 (numOf K n) c8) v6 (accOf K ta n) (edgOf K (te.take k) ++ [⟨(np : Nat), (nr : Nat), xi, xo⟩]) (w6.setCell ⟨w5.heap.size, 2, none⟩ v6) → (fun W => (W.cell? ⟨N0, 0, none⟩ = some (.int .i64 (p : Nat)) ∧ W.cell? ⟨N0, 1, none⟩ = some (.int .i64 (r : Nat)) ∧ W.cell? ⟨N0, 2, none⟩ = some (.string xi) ∧ W.cell? ⟨N0, 3, none⟩ = some (.string xo)) ∧ W.cell? ⟨w5.heap.size + 1, p, none⟩ = some (.int .i64 (np : Nat)) ∧ W.cell? ⟨w5.heap.size + 1, r, none⟩ = some (.int .i64 (nr : Nat))) (w6.setCell ⟨w5.heap.size, 2, none⟩ v6) from fun v6 w6 hS hT => by
              have he : ∀ i, (w6.setCell ⟨w5.heap.size, 2, none⟩ v6).cell? ⟨N0, i, none⟩ = w6.cell? ⟨N0, i, none⟩ := fun i => by
                unfold World.cell?
                rw [Below.heap_setCell _ _ _ _ (fun e => hN2 e.symm)]
              refine ⟨⟨(he 0).trans hS.1.1, (he 1).trans hS.1.2.1, (he 2).trans hS.1.2.2.1, (he 3).trans hS.1.2.2.2⟩, ?_, ?_⟩
              · rw [hT.cell hp, numI_all hp HY.out.symm, ← HNP.out]
              · rw [hT.cell hr, numI_all hr HZ.out.symm, ← HNR.out])
            obtain ⟨⟨b0, b1, b2⟩, b3, b4, b5⟩ := HTD.out.box
            have b6 : w5.heap.size < W1.heap.size := HT3.out.ltZ
            have b7 : w5.heap.size + 1 < W1.heap.size := HT3.out.ltG
            have b8 : W1.cell? ⟨w5.heap.size, 2, none⟩ = some (.slice an nn cn) := b2
            clear t0 t1 t2 t3 m1 m2
            refine wp_region_held_drew (S := (fun W => (W.cell? ⟨N0, 0, none⟩ = some (.int .i64 (p : Nat)) ∧ W.cell? ⟨N0, 1, none⟩ = some (.int .i64 (r : Nat)) ∧ W.cell? ⟨N0, 2, none⟩ = some (.string xi) ∧ W.cell? ⟨N0, 3, none⟩ = some (.string xo)) ∧ W.cell? ⟨w5.heap.size + 1, p, none⟩ = some (.int .i64 (np : Nat)) ∧ W.cell? ⟨w5.heap.size + 1, r, none⟩ = some (.int .i64 (nr : Nat)))) (by kernel_rfl) ?hS (fun hHeld => ?hR)
            case hS => (first | exact HSD.out | exact HSX.out | exact HSW.out | exact HS6.out)
            refine wpAnyH_take (i := 0) (v := ?v1) rfl (by kernel_rfl) (by kernel_rfl) (by kernel_rfl) (fun _ _ _ h => h) (Or.inl ⟨by rfl, ?y1⟩) (by assumption) ?r1
            case y1 => (intro W hSw; (try dsimp only at hSw); go_simp; try with_reducible rfl)
            (try simp only [Act.put, List.setIfInBounds_toArray, List.set_cons_zero, List.set_cons_succ])
            refine wpAnyH_take (i := 2) (v := ?v2) rfl (by kernel_rfl) (by kernel_rfl) (by kernel_rfl) (fun _ _ _ h => h) (Or.inl ⟨by rfl, ?y2⟩) (by assumption) ?r2
            case y2 => (intro W hSw; (try dsimp only at hSw); go_simp; try with_reducible rfl)
            (try simp only [Act.put, List.setIfInBounds_toArray, List.set_cons_zero, List.set_cons_succ])
            refine wpAnyH_take (i := 3) (v := ?v3) rfl (by kernel_rfl) (by kernel_rfl) (by kernel_rfl) (fun _ _ _ h => h) (Or.inl ⟨by rfl, ?y3⟩) (by assumption) ?r3
            case y3 => (intro W hSw; (try dsimp only at hSw); go_simp; try with_reducible rfl)
            (try simp only [Act.put, List.setIfInBounds_toArray, List.set_cons_zero, List.set_cons_succ])
            refine wpAnyH_take (i := 4) (v := ?v4) rfl (by kernel_rfl) (by kernel_rfl) (by kernel_rfl) (fun _ _ _ h => h) (Or.inl ⟨by rfl, ?y4⟩) (by assumption) ?r4
            case y4 => (intro W hSw; (try dsimp only at hSw); go_simp; try with_reducible rfl)
            (try simp only [Act.put, List.setIfInBounds_toArray, List.set_cons_zero, List.set_cons_succ])
            refine wpAnyH_take (i := 5) (v := ?v5) rfl (by kernel_rfl) (by kernel_rfl) (by kernel_rfl) (fun _ _ _ h => h) (Or.inl ⟨by rfl, ?y5⟩) (by assumption) ?r5
            case y5 => (intro W hSw; (try dsimp only at hSw); go_simp; try with_reducible rfl)
            (try simp only [Act.put, List.setIfInBounds_toArray, List.set_cons_zero, List.set_cons_succ])
            refine wpAnyH_take (i := 6) (v := ?v6) rfl (by kernel_rfl) (by kernel_rfl) (by kernel_rfl) (fun _ _ _ h => h) (Or.inl ⟨by rfl, ?y6⟩) (by assumption) ?r6
            case y6 => (intro W hSw; (try dsimp only at hSw); go_simp; try with_reducible rfl)
            (try simp only [Act.put, List.setIfInBounds_toArray, List.set_cons_zero, List.set_cons_succ])
            refine wpAnyH_take (i := 7) (v := ?v7) rfl (by kernel_rfl) (by kernel_rfl) (by kernel_rfl) (fun _ _ _ h => h) (Or.inl ⟨by rfl, ?y7⟩) (by assumption) ?r7
            case y7 => (intro W hSw; (try dsimp only at hSw); go_simp; try with_reducible rfl)
            (try simp only [Act.put, List.setIfInBounds_toArray, List.set_cons_zero, List.set_cons_succ])
            refine wpAnyH_take (i := 8) (v := ?v8) rfl (by kernel_rfl) (by kernel_rfl) (by kernel_rfl) (fun _ _ _ h => h) (Or.inl ⟨by rfl, ?y8⟩) (by assumption) ?r8
            case y8 => (intro W hSw; (try dsimp only at hSw); go_simp; try with_reducible rfl)
            (try simp only [Act.put, List.setIfInBounds_toArray, List.set_cons_zero, List.set_cons_succ])
            refine wpAnyH_take (i := 9) (v := ?v9) rfl (by kernel_rfl) (by kernel_rfl) (by kernel_rfl) (fun _ _ _ h => h) (Or.inl ⟨by rfl, ?y9⟩) (by assumption) ?r9
            case y9 => (intro W hSw; (try dsimp only at hSw); go_simp; try with_reducible rfl)
            (try simp only [Act.put, List.setIfInBounds_toArray, List.set_cons_zero, List.set_cons_succ])
            refine wpAnyH_take (i := 10) (v := ?v10) rfl (by kernel_rfl) (by kernel_rfl) (by kernel_rfl) (fun _ _ _ h => h) (Or.inl ⟨by rfl, ?y10⟩) (by assumption) ?r10
            case y10 => (intro W hSw; (try dsimp only at hSw); go_simp; try with_reducible rfl)
            (try simp only [Act.put, List.setIfInBounds_toArray, List.set_cons_zero, List.set_cons_succ])
            refine wpAnyH_take (i := 11) (v := ?v11) rfl (by kernel_rfl) (by kernel_rfl) (by kernel_rfl) (fun _ _ _ h => h) (Or.inl ⟨by rfl, ?y11⟩) (by assumption) ?r11
            case y11 => (intro W hSw; (try dsimp only at hSw); go_simp; try with_reducible rfl)
            (try simp only [Act.put, List.setIfInBounds_toArray, List.set_cons_zero, List.set_cons_succ])
            refine wpAnyH_take (i := 12) (v := ?v12) rfl (by kernel_rfl) (by kernel_rfl) (by kernel_rfl) (fun _ _ _ h => h) (Or.inl ⟨by rfl, ?y12⟩) (by assumption) ?r12
            case y12 => (intro W hSw; (try dsimp only at hSw); go_simp; try with_reducible rfl)
            (try simp only [Act.put, List.setIfInBounds_toArray, List.set_cons_zero, List.set_cons_succ])
            refine wpAnyH_take (i := 13) (v := ?v13) rfl (by kernel_rfl) (by kernel_rfl) (by kernel_rfl) (fun _ _ _ h => h) (Or.inl ⟨by rfl, ?y13⟩) (by assumption) ?r13
            case y13 => (intro W hSw; (try dsimp only at hSw); go_simp; try with_reducible rfl)
            (try simp only [Act.put, List.setIfInBounds_toArray, List.set_cons_zero, List.set_cons_succ])
            refine wpAnyH_take (i := 14) (v := ?v14) rfl (by kernel_rfl) (by kernel_rfl) (by kernel_rfl) (fun _ _ _ h => h) (Or.inl ⟨by rfl, ?y14⟩) (by assumption) ?r14
            case y14 => (intro W hSw; (try dsimp only at hSw); go_simp; try with_reducible rfl)
            (try simp only [Act.put, List.setIfInBounds_toArray, List.set_cons_zero, List.set_cons_succ])
            refine wpAnyH_take (i := 15) (v := ?v15) rfl (by kernel_rfl) (by kernel_rfl) (by kernel_rfl) (fun _ _ _ h => h) (Or.inl ⟨by rfl, ?y15⟩) (by assumption) ?r15
            case y15 => (intro W hSw; (try dsimp only at hSw); go_simp; try with_reducible rfl)
            (try simp only [Act.put, List.setIfInBounds_toArray, List.set_cons_zero, List.set_cons_succ])
            refine wpAnyH_take (i := 16) (v := ?v16) rfl (by kernel_rfl) (by kernel_rfl) (by kernel_rfl) (fun _ _ _ h => h) (Or.inl ⟨by rfl, ?y16⟩) (by assumption) ?r16
            case y16 => (intro W hSw; (try dsimp only at hSw); go_simp; try with_reducible rfl)
            (try simp only [Act.put, List.setIfInBounds_toArray, List.set_cons_zero, List.set_cons_succ])
            refine wpAnyH_ready (rs := [1, 17]) (by kernel_rfl) (by simp) ?_
            refine AllReadyH.cons rfl (fun K hK => ?_) (AllReadyH.cons rfl (fun K hK => ?_) AllReadyH.nil)
            · go_simp
              refine hK.out _ _ (by (first | exact HSD.out | exact HSX.out | exact HSW.out | exact HS6.out)) (fun hHeld => ?_)
              clear hK K
              (try simp only [Act.put, List.setIfInBounds_toArray, List.set_cons_zero, List.set_cons_succ])
              refine wpAnyH_ready (rs := [17]) (by kernel_rfl) (by simp) ?_
              refine AllReadyH.cons rfl (fun K hK => ?_) AllReadyH.nil
              · go_simp
                refine hK.out _ _ (by (first | exact HSD.out | exact HSX.out | exact HSW.out | exact HS6.out)) (fun hHeld => ?_)
                clear hK K
                (try simp only [Act.put, List.setIfInBounds_toArray, List.set_cons_zero, List.set_cons_succ])
                refine wpAnyH_ready (rs := [18]) (by kernel_rfl) (by simp) ?_
                refine AllReadyH.cons rfl (fun K hK => ?_) AllReadyH.nil
                · (refine step_pushE (by rfl) _ _ (by rfl) w5.heap.size (.slice an nn cn) _ (⟨(np : Nat), (nr : Nat), xi, xo⟩ : E) HTD.out.bld.edg HTD.out.size HLE.out (by rfl) _ (by rfl) (by rfl) ?_; intro v6 w6 hp6; obtain ⟨a6, n6, c6, rfl, -⟩ := hp6.lst.shape'; obtain ⟨⟨u0, u1, u2⟩, ⟨u3, u4, u5⟩, u6⟩ := HTD.out.obE hp6; have HSW := Lib.hid (HSG.out _ _ hp6); have HT6 := Lib.hid (HTD.out.pushE hp6); have HF6 := Lib.hid (HFD.out.pushE HTD.out hp6); have HS6 := Lib.hid (HSZ.out _ _ HSW.out HT6.out); clear hp6)
                  refine hK.out _ _ (by (first | exact HSD.out | exact HSX.out | exact HSW.out | exact HS6.out)) (fun hHeld => ?_)
                  clear hK K
                  (try simp only [Act.put, List.setIfInBounds_toArray, List.set_cons_zero, List.set_cons_succ])
                  refine wpAnyH_take (i := 19) (v := ?v17) rfl (by kernel_rfl) (by kernel_rfl) (by kernel_rfl) (fun _ _ _ h => h) (Or.inl ⟨by rfl, ?y17⟩) (by assumption) ?r17
                  case y17 => (intro W hSw; (try dsimp only at hSw); go_simp; try with_reducible rfl)
                  (try simp only [Act.put, List.setIfInBounds_toArray, List.set_cons_zero, List.set_cons_succ])
                  refine wpAnyH_ready (rs := [20]) (by kernel_rfl) (by simp) ?_
                  refine AllReadyH.cons rfl (fun K hK => ?_) AllReadyH.nil
                  · go_simp
                    refine hK.out _ _ (by (first | exact HSD.out | exact HSX.out | exact HSW.out | exact HS6.out)) (fun hHeld => ?_)
                    clear hK K
                    (try simp only [Act.put, List.setIfInBounds_toArray, List.set_cons_zero, List.set_cons_succ])
                    refine wpAnyH_done (by kernel_rfl) ?_ _
                    go_wp2_with fail
                    go_roundw
                    case rel => exact ⟨k + 1, _, by omega, by go_num, by rw [HEE.out]; exact HT6.out, HF6.out⟩
                    case measure => simp [intOf]; omega
            · go_simp
              refine hK.out _ _ (by (first | exact HSD.out | exact HSX.out | exact HSW.out | exact HS6.out)) (fun hHeld => ?_)
              clear hK K
              (try simp only [Act.put, List.setIfInBounds_toArray, List.set_cons_zero, List.set_cons_succ])
              refine wpAnyH_ready (rs := [1]) (by kernel_rfl) (by simp) ?_
              refine AllReadyH.cons rfl (fun K hK => ?_) AllReadyH.nil
              · go_simp
                refine hK.out _ _ (by (first | exact HSD.out | exact HSX.out | exact HSW.out | exact HS6.out)) (fun hHeld => ?_)
                clear hK K
                (try simp only [Act.put, List.setIfInBounds_toArray, List.set_cons_zero, List.set_cons_succ])
                refine wpAnyH_ready (rs := [18]) (by kernel_rfl) (by simp) ?_
                refine AllReadyH.cons rfl (fun K hK => ?_) AllReadyH.nil
                · (refine step_pushE (by rfl) _ _ (by rfl) w5.heap.size (.slice an nn cn) _ (⟨(np : Nat), (nr : Nat), xi, xo⟩ : E) HTD.out.bld.edg HTD.out.size HLE.out (by rfl) _ (by rfl) (by rfl) ?_; intro v6 w6 hp6; obtain ⟨a6, n6, c6, rfl, -⟩ := hp6.lst.shape'; obtain ⟨⟨u0, u1, u2⟩, ⟨u3, u4, u5⟩, u6⟩ := HTD.out.obE hp6; have HSW := Lib.hid (HSG.out _ _ hp6); have HT6 := Lib.hid (HTD.out.pushE hp6); have HF6 := Lib.hid (HFD.out.pushE HTD.out hp6); have HS6 := Lib.hid (HSZ.out _ _ HSW.out HT6.out); clear hp6)
                  refine hK.out _ _ (by (first | exact HSD.out | exact HSX.out | exact HSW.out | exact HS6.out)) (fun hHeld => ?_)
                  clear hK K
                  (try simp only [Act.put, List.setIfInBounds_toArray, List.set_cons_zero, List.set_cons_succ])
                  refine wpAnyH_take (i := 19) (v := ?v18) rfl (by kernel_rfl) (by kernel_rfl) (by kernel_rfl) (fun _ _ _ h => h) (Or.inl ⟨by rfl, ?y18⟩) (by assumption) ?r18
                  case y18 => (intro W hSw; (try dsimp only at hSw); go_simp; try with_reducible rfl)
                  (try simp only [Act.put, List.setIfInBounds_toArray, List.set_cons_zero, List.set_cons_succ])
                  refine wpAnyH_ready (rs := [20]) (by kernel_rfl) (by simp) ?_
                  refine AllReadyH.cons rfl (fun K hK => ?_) AllReadyH.nil
                  · go_simp
                    refine hK.out _ _ (by (first | exact HSD.out | exact HSX.out | exact HSW.out | exact HS6.out)) (fun hHeld => ?_)
                    clear hK K
                    (try simp only [Act.put, List.setIfInBounds_toArray, List.set_cons_zero, List.set_cons_succ])
                    refine wpAnyH_done (by kernel_rfl) ?_ _
                    go_wp2_with fail
                    go_roundw
                    case rel => exact ⟨k + 1, _, by omega, by go_num, by rw [HEE.out]; exact HT6.out, HF6.out⟩
                    case measure => simp [intOf]; omega
          all_goals
            have HEE := Lib.hid (show edgOf K (te.take (k + 1)) = edgOf K (te.take k) by
              exact HNO.out (by show (K p && K r) = false; rw [← HY.out, ← HZ.out]; rfl))
            go_wp2
            go_roundw
            case rel => exact ⟨k + 1, _, by omega, by go_num, by rw [HEE.out]; exact HT3.out, HF3.out⟩
            case measure => simp [intOf]; omega
        · obtain rfl : k = q := by omega
          have hKQ : te.take k = te := by rw [List.take_of_length_le (by rw [← HQ.out]; exact Nat.le_refl _)]
          have HKQ := Lib.hid hKQ
          have HTR := Lib.hid (show trimOf s1 s2 ⟨(st : Nat), ta, te⟩ = ⟨(numOf K st : Nat), accOf K ta n, edgOf K te⟩ by rw [HKE.out, HN.out]; rfl)
          obtain ⟨⟨b0, b1, b2⟩, b3, b4, b5⟩ := hT.box
          have b6 := hT.ltZ
          obtain ⟨r0, r1, r2, r3, r4, r5⟩ := K2.cells (HKW.out _ hT.low)
          have l1 : w.heap.size + 1 < wr.heap.size := by have := hT.size; have := HLO.out.1; omega
          have l2 : w.heap.size + 1 < w5.heap.size := by have := HLO.out.1; omega
          clear hT hF hKQ hk hlt
          go_wp2
          obtain ⟨o0, o1, o2⟩ := put3_cells (a := .int .i64 (numOf K st : Nat)) (b := .slice a8 (numOf K n) c8) (c := .slice an nn cn) (K2.res (HKW.out _ HT2.out.low))
          refine bodyPost_ret (v := .agg #[.int .i64 (numOf K st : Nat), .slice a8 (numOf K n) c8, .slice an nn cn]) (by simp [results, Try.results66, go_sem, o0, o1, o2]) rfl ⟨s1, s2, .slice a8 (numOf K n) c8, .slice an nn cn, HF1.out, HF2.out, by rw [HTR.out], ?_, ?_⟩
          · rw [HTR.out]
            refine BuiltT.mono (B := w5.heap.size) (BuiltT.put3 ⟨HT2.out.bld.acc, by have := HT2.out.bld.edg; rwa [HKQ.out] at this, edgOf_fits HFT.out, by have := edgOf_length K te; have := HQ.out; simp only; omega⟩ l2) (by omega)
          · exact put3_below (K2.base (HKW.out _ HT2.out.low)) (by omega)
end Go.Proofs.Ytjoiaenkmmmmpaa.TrimImpl
