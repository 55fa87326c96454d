
/- What the program's function that makes the tidy relation hands back: lists of its own, if there are few states.
   Conditions: the relation has the form that is asked, and at most 100000 states. -/
import Derived.Test.YtaimealknkhfbaaDoorRB20
namespace Go.Proofs.YtaimealknkhfbaaDoor.ImplTidied
set_option linter.unusedVariables false
set_option linter.unusedSimpArgs false
open Go.RowKit Mem Copy Rel Valid Heap Bld TidyMath TidyClass TidyAuto TidyRight TidyNum SpecFiner SpecRight Places ImplRight ImplClasses ImplClassesOf States TidyState MarkRow

theorem nxP_len (l : L) : (nxP l).length = (F l).length + 1 := by simp [nxP]
theorem accP_len (l : L) : (accP l).length = (F l).length + 1 := by simp [accP]
theorem rowsOkP {l : L} (hl : l.Ok) : RowsOk (nxP l) (auP l).n (wide l.k) := by
  refine ⟨nxP_len l, fun s hs => ?_⟩
  have hs' : s < (F l).length + 1 := hs
  cases s with
  | zero =>
    have e : (nxP l).getD 0 [] = List.replicate (wide l.k) 0 := rfl
    rw [e]
    refine ⟨by simp, fun q hq => ?_⟩
    show _ < (F l).length + 1
    simp [List.getD, hq]
  | succ s =>
    have hsF : s < (F l).length := by omega
    have e : (nxP l).getD (s + 1) [] = rowP l (F l)[s] := auP_nx hsF
    rw [e]
    refine ⟨rowP_length _ _, fun q hq => ?_⟩
    have hq' : q < (rowP l (F l)[s]).length := by rw [rowP_length]; exact hq
    rw [List.getD, List.getElem?_eq_getElem hq', Option.getD_some]
    have hall : ∀ z ∈ rowP l (F l)[s], z < (F l).length + 1 := by
      rw [rowP_of hl hsF]
      intro z hz
      obtain ⟨t, ht, e2⟩ := List.mem_map.1 hz
      have h1 := rowM_lt hl hsF t ht
      rw [← e2]
      unfold σ; split <;> omega
    exact hall _ (List.getElem_mem hq')
theorem fitsP {l : L} (hl : l.Ok) : Fits (auP l) 1 := by
  refine ⟨?_, fun s hs t ht => ?_⟩
  · show 1 < (F l).length + 1
    have := F_pos l; omega
  · have h := (rowsOkP hl).2 s hs
    have e : (auP l).nx s = (nxP l).getD s [] := rfl
    rw [e] at ht
    obtain ⟨q, hq, rfl⟩ := List.getElem_of_mem ht
    have h2 := h.2 q (by rw [← h.1]; exact hq)
    rw [List.getD, List.getElem?_eq_getElem hq, Option.getD_some] at h2
    exact h2
/-- The row of a state of which the first columns have been turned into the numbers of classes. -/
def rowX (A : Au) (x0 s c i : Nat) : Int := if i < c then (tidRow A x0 s).getD i 0 else (((A.nx s).getD i 0 : Nat) : Int)
theorem rowX_zero (A : Au) (x0 s wd : Nat) (h : (A.nx s).length = wd) : (ofN (A.nx s)).map (Value.int .i64) = tv wd (rowX A x0 s 0) := by
  apply List.ext_getElem
  · simp [ofN, tv, h]
  · intro i h1 h2
    have hi : i < (A.nx s).length := by simpa [ofN] using h1
    rw [tv_get _ _ h2]
    unfold rowX
    rw [if_neg (Nat.not_lt_zero i)]
    simp [ofN, List.getD, hi]
theorem rowX_end (A : Au) (x0 s wd : Nat) (h : (A.nx s).length = wd) : tv wd (rowX A x0 s wd) = (tidRow A x0 s).map (Value.int .i64) := by
  have hl : (tidRow A x0 s).length = wd := by unfold tidRow; rw [List.length_map, h]
  apply List.ext_getElem
  · simp [tv, hl]
  · intro i h1 h2
    have hi : i < wd := by simpa [tv] using h1
    rw [tv_get _ _ h1]
    unfold rowX
    rw [if_pos hi]
    have : i < (tidRow A x0 s).length := by rw [hl]; exact hi
    simp [List.getD, this]
theorem rowX_set (A : Au) (x0 s wd c : Nat) (x : Int) (hx : x = (tidRow A x0 s).getD c 0) : (tv wd (rowX A x0 s c)).set c (.int .i64 x) = tv wd (rowX A x0 s (c + 1)) := by
  rw [tv_set]
  refine tv_congr fun i _ => ?_
  unfold rowX
  by_cases e : i = c
  · subst e; rw [if_pos rfl, if_pos (Nat.lt_succ_self i), hx]
  · have : (i < c + 1) = (i < c) := by apply propext; constructor <;> intro h <;> omega
    simp only [if_neg e, this]
theorem tid_num {A : Au} {x0 i c s t : Nat} (hf : Fits A x0) (hi : i < (met A x0 i).length) (hs : (met A x0 i)[i] = s) (hc : c < (A.nx s).length) (ht : (A.nx s)[c] = t) : (tidRow A x0 s).getD c 0 = ((idx (κ A) (pt A x0 i c) t : Nat) : Int) := by
  have h1 := (pt_step hf hi hs hc ht).2
  have hl : (tidRow A x0 s).length = (A.nx s).length := by unfold tidRow; rw [List.length_map]
  have h2 := congrArg (fun l => l[c]?) h1
  rw [List.getElem?_take, if_pos (Nat.lt_succ_self c), List.getElem?_append_right (by rw [List.length_take]; omega)] at h2
  rw [List.getD, h2, List.length_take, show c - min c (tidRow A x0 s).length = 0 by omega]; rfl
theorem met_zero (A : Au) (x0 : Nat) : met A x0 0 = [x0] := rfl
theorem fewP {l : L} (hl : l.Ok) : (tid (auP l) 1).length = (tidyAcc l).length ∧ TidyAuto.most (auP l) ≤ (tidyAcc l).length + 1 := by
  have h1 := (tidyP hl).1
  have h2 : (tidyAcc l).length = (tid (auM l) 0).length := by unfold tidyAcc tidAcc; rw [List.length_map]
  refine ⟨by rw [h1, List.length_map, h2], ?_⟩
  rw [(twin hl).most, h2]; exact many hl

/-- Nothing has been met yet. -/
theorem ms0 (w4 : World) (Y n Bc : Nat) (κ : Nat → Nat) (vC : Value) (hY : w4.heap.size = Y) (hn : n ≤ 1000000) (hc : Lst w4 Bc 21 vC (tw n κ)) :
    MS ((((w4.alloc (.cells #[vC] 120)).alloc (.cells (madeCells #[Value.int .i64 0] n) 2)).alloc (.cells #[.slice (some ⟨Y + 1, 0, none⟩) n n] 52)).alloc (.cells #[.slice none 0 0] 52))
      (Y + 1) Bc (Y + 1 + 1) Y (Y + 1 + 1 + 1) (Y + 1) n n vC (.slice none 0 0) κ [] [] := by
  have s1 : (w4.alloc (.cells #[vC] 120)).heap.size = Y + 1 := by rw [size_alloc', hY]
  have s2 : ((w4.alloc (.cells #[vC] 120)).alloc (.cells (madeCells #[Value.int .i64 0] n) 2)).heap.size = Y + 1 + 1 := by rw [size_alloc', s1]
  have s3 : (((w4.alloc (.cells #[vC] 120)).alloc (.cells (madeCells #[Value.int .i64 0] n) 2)).alloc (.cells #[.slice (some ⟨Y + 1, 0, none⟩) n n] 52)).heap.size = Y + 1 + 1 + 1 := by rw [size_alloc', s2]
  refine ⟨?_, ?_, ?_, ?_, (((hc.alloc _).alloc _).alloc _).alloc _, by omega, by omega⟩
  · rw [Below.heap_alloc _ _ _ (by omega), ← s2]; exact heap_alloc_new _ _
  · rw [Below.heap_alloc _ _ _ (by omega), Below.heap_alloc _ _ _ (by omega), Below.heap_alloc _ _ _ (by omega), ← hY]; exact heap_alloc_new _ _
  · have := heap_alloc_new (((w4.alloc (.cells #[vC] 120)).alloc (.cells (madeCells #[Value.int .i64 0] n) 2)).alloc (.cells #[.slice (some ⟨Y + 1, 0, none⟩) n n] 52)) (.cells #[.slice none 0 0] 52)
    rwa [s3] at this
  · have h1 := Lst.made (w4.alloc (.cells #[vC] 120)) (Y + 1) 2 (.int .i64 0) n (by omega) (by unfold maxLen; omega)
    rw [tv_rep, s1, tv_congr (S := numT κ []) (fun i _ => (numT_nil κ i).symm)] at h1
    exact Own.add (Own.add (Own.nil _ _ _) (Lst.nil _ _ _) (fun p hp => by cases hp)) ((h1.alloc _).alloc _) (fun p hp q hq => by
      rcases List.mem_cons.1 hp with rfl | hp
      · intro e; cases e
      · cases hp)
theorem ts_new1 {w6 : World} {B Bc b9 bc b10 g n m k : Nat} {vC vS : Value} {κ : Nat → Nat} {P : List Nat} (hm : MS w6 B Bc b9 bc b10 g n m vC vS κ P []) (hB : B ≤ w6.heap.size) :
    TS (w6.alloc (.cells #[.int .i64 k, .int .i64 0, .slice none 0 0, .slice none 0 0] 27)) B Bc b9 bc b10 g n m w6.heap.size k vC vS (.slice none 0 0) (.slice none 0 0) κ P [] [] [] := by
  have h1 := hm.below ((Below.refl _ _).alloc (Nat.le_refl _) (.cells #[.int .i64 k, .int .i64 0, .slice none 0 0, .slice none 0 0] 27))
  exact ⟨⟨h1.own, Lst.nil _ _ _, Lst.nil _ _ _, heap_alloc_new _ _, hB⟩, ⟨h1.box9, h1.boxC, h1.box10, h1.cls⟩, hm.b10B, hm.b9n, (fun e => by cases e), (fun e => by cases e)⟩
theorem ts_new2 {w6 : World} {B Bc b9 bc b10 g n m k ob : Nat} {vC vS : Value} {κ : Nat → Nat} {P : List Nat} (hm : MS w6 B Bc b9 bc b10 g n m vC vS κ P []) (hB : B ≤ ob)
    (hO : w6.heap[ob]? = some (.cells #[Value.int .i64 0, .int .i64 0, .slice none 0 0, .slice none 0 0] 27 (0, 0))) :
    TS ((((w6.setCell ⟨ob, 0, none⟩ (.int .i64 k)).setCell ⟨ob, 1, none⟩ (.int .i64 0)).setCell ⟨ob, 2, none⟩ (.slice none 0 0)).setCell ⟨ob, 3, none⟩ (.slice none 0 0)) B Bc b9 bc b10 g n m ob k vC vS (.slice none 0 0) (.slice none 0 0) κ P [] [] [] ∧
    ∀ C, C ≤ B → Below C w6 ((((w6.setCell ⟨ob, 0, none⟩ (.int .i64 k)).setCell ⟨ob, 1, none⟩ (.int .i64 0)).setCell ⟨ob, 2, none⟩ (.slice none 0 0)).setCell ⟨ob, 3, none⟩ (.slice none 0 0)) := by
  have p0 := cells_set hO 0 (.int .i64 k)
  have p1 := cells_set p0 1 (.int .i64 0)
  have p2 := cells_set p1 2 (Value.slice none 0 0)
  have p3 := cells_set p2 3 (Value.slice none 0 0)
  have x0 : Bx w6 Bc b9 bc b10 g n m vC vS κ := ⟨hm.box9, hm.boxC, hm.box10, hm.cls⟩
  have x3 := (((x0.setOther (a := ⟨ob, 0, none⟩) hO (by decide) (by decide) (by decide) (.int .i64 k)).setOther (a := ⟨ob, 1, none⟩) p0 (by decide) (by decide) (by decide) (.int .i64 0)).setOther (a := ⟨ob, 2, none⟩) p1 (by decide) (by decide) (by decide) (.slice none 0 0)).setOther (a := ⟨ob, 3, none⟩) p2 (by decide) (by decide) (by decide) (.slice none 0 0)
  have o3 := (((hm.own.setOther (a := ⟨ob, 0, none⟩) hO (by decide) (.int .i64 k)).setOther (a := ⟨ob, 1, none⟩) p0 (by decide) (.int .i64 0)).setOther (a := ⟨ob, 2, none⟩) p1 (by decide) (.slice none 0 0)).setOther (a := ⟨ob, 3, none⟩) p2 (by decide) (.slice none 0 0)
  refine ⟨⟨⟨o3, Lst.nil _ _ _, Lst.nil _ _ _, by simpa using p3, hB⟩, x3, hm.b10B, hm.b9n, (fun e => by cases e), (fun e => by cases e)⟩, fun C hC => ?_⟩
  exact (((Below.setCell (Below.refl _ _) (by show C ≤ ob; omega) _).setCell (by show C ≤ ob; omega) _).setCell (by show C ≤ ob; omega) _).setCell (by show C ≤ ob; omega) _
theorem MetFrame.belowS {w w' : World} {B C Bc b9 bc b10 g n m : Nat} {vC vS vS' : Value} {κ : Nat → Nat} {P : List Nat} {others : List (Value × List Value)} (h : MetFrame w w' b10 g vS vS') (hm : MS w B Bc b9 bc b10 g n m vC vS κ P others) (hC : C ≤ B) (hs : C ≤ w.heap.size) : Below C w w' :=
  ⟨h.os, h.tape, h.output, h.size, fun k hk => h.block k (by omega) (by have := hm.b10B; omega) (fun e => by have := (Own.get [] _ hm.own).ge (k := g) rfl; omega) (fun e => by have := (Own.get [_] _ hm.own).ge e; omega)⟩

def fewB (l : L) (mst : Nat) : Bool := decide ((tidyAcc l).length ≤ mst)
def fewK (l : L) (mst : Nat) : Int := if fewB l mst = true then l.k else 0
def fewA (l : L) (mst : Nat) : List Bool := if fewB l mst = true then tidyAcc l else []
def fewN (l : L) (mst : Nat) : List (List Int) := if fewB l mst = true then tidyNext l else []
theorem built_none (w : World) (B : Nat) : Built w B (.slice none 0 0) (.slice none 0 0) [] [] := ⟨Lst.nil _ _ _, [], Own.nil _ _ _, Lst.nil _ _ _, rfl⟩

set_option maxRecDepth 100000 in
set_option maxHeartbeats 8000000 in
theorem tidiedTo (l : L) (hl : l.Ok) (v : Value) (w : World) (B : Nat) (h : RelAt w B v (relOf l)) (hB : B ≤ w.heap.size) (hn : l.acc.length ≤ 100000) (mst : Nat) (hmst : mst ≤ 100000) :
    Calls Tryd.prog 66 #[v, .int .i64 mst] w fun e w' => ∃ va vn, e = .returned (.tuple #[.agg #[.int .i64 (fewK l mst), .int .i64 0, va, vn], .bool (fewB l mst)]) ∧ Built w' w.heap.size va vn (fewA l mst) (fewN l mst) ∧ Below w.heap.size w w' := by
  have HRR := Lib.hid (fun W (hb : Below w.heap.size w W) (hs : w.heap.size ≤ W.heap.size) => ImplRight.rightPart l hl v W B (by
    obtain ⟨va, vn, rfl, ha, hx⟩ := h
    exact ⟨va, vn, rfl, ha.below hb hB, hx.below hb hB⟩) (Nat.le_trans hB hs) hn)
  obtain ⟨va, vn, rfl, ha, hnx⟩ := h
  obtain ⟨aa, ba, oa, ca, rfl, -, -, -⟩ := ha
  obtain ⟨-, ⟨ab, bb, ob, cb, rfl, -, -, -⟩, -⟩ := hnx
  have k3 := hl.k3
  simp only [relOf] at HRR ⊢
  have HHL := Lib.hid hl
  obtain ⟨k, hk⟩ : ∃ k, k = l.k := ⟨_, rfl⟩
  obtain ⟨st, hs⟩ : ∃ st, st = l.start := ⟨_, rfl⟩
  obtain ⟨na, hna⟩ : ∃ na, na = l.acc.length := ⟨_, rfl⟩
  obtain ⟨nb, hnb⟩ : ∃ nb, nb = (l.nx.map ofN).length := ⟨_, rfl⟩
  rw [← hk, ← hs, ← hna, ← hnb] at HRR
  rw [← hk, ← hs, ← hna, ← hnb]
  have HKK := Lib.hid hk
  obtain ⟨m1, hm1⟩ : ∃ m1, m1 = mst + 1 := ⟨_, rfl⟩
  have hme : (mst : Int) + 1 = (m1 : Int) := by rw [hm1]; omega
  have HM1 := Lib.hid hm1
  have hF8 : (F l).length ≤ 800000 := by have := places_len hl (l.acc.length * 8); unfold F; omega
  have HF8 := Lib.hid hF8
  clear hk hs hna hnb hl hm1
  have HRP := Lib.hid (HRR.out ((w.alloc (.cells #[.int .i64 k, .int .i64 st, .slice aa na ca, .slice ab nb cb] 27)).alloc (.cells #[Value.int .i64 0, .int .i64 0, .slice none 0 0, .slice none 0 0] 27)) (((Below.refl _ _).alloc (Nat.le_refl _) _).alloc (by rw [size_alloc']; omega) _) (by rw [size_alloc', size_alloc']; omega))
  have hmf : ∀ (fn : Fn) (first cap : Array Value) (w : World), (Instr.makeFunc fn first cap).run Tryd.prog w = .ok (.func fn first cap) w := fun _ _ _ _ => rfl
  clear hF8
  go_enter Tryd.func66, Tryd.ntmps66
  go_wp2_with fail
  refine HRP.out.mono ?_
  rintro e w2 ⟨va, vn, rfl, hbu, hb2⟩
  have hk2 : K0 w #[.int .i64 k, .int .i64 st, .slice aa na ca, .slice ab nb cb] w2 := by
    have h1 := hb2
    rw [size_alloc', size_alloc'] at h1
    exact h1
  have HK2 := Lib.hid hk2
  have HBU := Lib.hid hbu
  obtain ⟨a2, n2, c2, rfl, HN2⟩ := hbu.acc.shape'
  obtain ⟨items0, -, hnx0, -⟩ := hbu.rows
  obtain ⟨b2, m2, d2, rfl, HN3⟩ := hnx0.shape'
  obtain ⟨X, hX⟩ : ∃ X, X = w2.heap.size := ⟨_, rfl⟩
  have HX := Lib.hid hX
  clear hb2 hk2 hbu hnx0 HRR HRP
  have hread := HBU.out.reads X (by omega) k 1
  obtain ⟨va', vn', e0, hac, hxx⟩ := hread
  injection e0 with e0
  simp at e0
  obtain ⟨rfl, rfl⟩ := e0
  obtain ⟨n, hnn⟩ : ∃ n, n = (auP l).n := ⟨_, rfl⟩
  have HNN := Lib.hid hnn
  have hn8 : n ≤ 800001 := by rw [hnn]; show (F l).length + 1 ≤ _; have := HF8.out; omega
  have hn2 : 2 ≤ n := by rw [hnn]; show 2 ≤ (F l).length + 1; have := F_pos l; omega
  have HCO := Lib.hid (fun W (hb : Below X w2 W) (hs : X ≤ W.heap.size) => ImplClassesOf.classesOf (auP l) (nxP l) (wide l.k) (rowsOkP HHL.out) (fun _ => rfl) (by have := wide_cases HHL.out.k0 HHL.out.k3; omega) (by rw [← hnn]; omega) (by rw [← hnn]; omega) m1 (by have := HM1.out; omega) (accP l) (accP_len l) (fun _ _ => rfl) W X k (.slice a2 n2 c2) (.slice b2 m2 d2) (Bools.below hac hb (Nat.le_refl _)) (IntRows.below hxx hb (Nat.le_refl _)) hs)
  have HC1 := Lib.hid (HCO.out (w2.alloc (.cells #[.int .i64 k, .int .i64 1, .slice a2 n2 c2, .slice b2 m2 d2] 27)) ((Below.refl _ _).alloc (by omega) _) (by rw [size_alloc']; omega))
  have HACC := Lib.hid hac
  have HNX := Lib.hid hxx
  clear hac hxx HCO hnn
  go_wp2_with fail
  refine HC1.out.mono ?_
  rintro e w4 ⟨av, nv, cv, rfl, hb4, hl4⟩
  have HB4 := Lib.hid hb4
  have HL4 := Lib.hid hl4
  clear hb4 hl4 HC1
  have hkres := K0.res (Below.trans HK2.out (show Below (w.heap.size + 2) w2 w4 from ((Below.refl _ _).alloc (by have := K0.size HK2.out; omega) _).trans (HB4.out.mono (by have := K0.size HK2.out; rw [size_alloc']; omega))))
  have HKR := Lib.hid hkres
  have HBW := Lib.hid (show Below w.heap.size w w4 from (K0.base HK2.out).trans (((Below.refl _ _).alloc (by have := K0.size HK2.out; omega) _).trans (HB4.out.mono (by have := K0.size HK2.out; rw [size_alloc']; omega))))
  have HFW := Lib.hid (fewP HHL.out)
  clear hkres
  by_cases hq : TidyAuto.most (auP l) ≤ m1
  · rw [decide_eq_true hq]
    have hL4 := HL4.out hq
    have hnv : nv = n := by obtain ⟨_, _, h1, -⟩ := hL4.shape; have h2 : nv = (tw (auP l).n (cls (auP l) (TidyAuto.stop (auP l) + 1))).length := by injection h1
                            rw [h2, tw_length, HNN.out]
    subst hnv
    have HL5 := Lib.hid hL4
    clear hq hL4 HL4
    obtain ⟨Y, hY⟩ : ∃ Y, Y = w4.heap.size := ⟨_, rfl⟩
    have hXY : X + 1 ≤ Y := by rw [hY]; have := HB4.out.size; rw [size_alloc'] at this; omega
    have HX4 := Lib.hid (show w4.heap[X]? = some (.cells #[.int .i64 k, .int .i64 1, .slice a2 n2 c2, .slice b2 m2 d2] 27 (0, 0)) from by
      rw [HB4.out.block X (by rw [size_alloc']; omega), hX]; exact heap_alloc_new _ _)
    have HMS := Lib.hid (ms0 w4 Y nv _ (κ (auP l)) (.slice av nv cv) hY.symm (by omega) (by have := HL5.out; rw [← HNN.out] at this; exact this))
    have HW5 := Lib.hid (show Below Y w4 ((((w4.alloc (.cells #[.slice av nv cv] 120)).alloc (.cells (madeCells #[Value.int .i64 0] nv) 2)).alloc (.cells #[.slice (some ⟨Y + 1, 0, none⟩) nv nv] 52)).alloc (.cells #[.slice none 0 0] 52)) by
      refine Below.alloc (Below.alloc (Below.alloc (Below.alloc (Below.refl _ _) (by omega) _) ?_ _) ?_ _) ?_ _
      all_goals (simp only [size_alloc']; omega))
    have HS5 := Lib.hid (show Y + 1 ≤ ((((w4.alloc (.cells #[.slice av nv cv] 120)).alloc (.cells (madeCells #[Value.int .i64 0] nv) 2)).alloc (.cells #[.slice (some ⟨Y + 1, 0, none⟩) nv nv] 52)).alloc (.cells #[.slice none 0 0] 52)).heap.size by
      simp only [size_alloc']; omega)
    have HNY := Lib.hid (show w.heap.size + 2 ≤ X from by rw [hX]; exact K0.size HK2.out)
    have hmk := run_make_row' (P := Tryd.prog) 52 2 (.int .i64 0) 8 Tryd.underlying52 info2 rfl .i64 .i64 nv (by omega) (by omega)
    have q0 := cells_get (K0.box (Below.trans HK2.out (show Below (w.heap.size + 2) w2 w4 from ((Below.refl _ _).alloc (by have := K0.size HK2.out; omega) _).trans (HB4.out.mono (by have := K0.size HK2.out; rw [size_alloc']; omega))))) 0
    have x1 := cells_get HX4.out 1
    simp at q0 x1
    go_upto_region 8 with fail
    rw [← hY, ← hX]
    obtain ⟨w5, hw5⟩ : ∃ w5, w5 = ((((w4.alloc (.cells #[.slice av nv cv] 120)).alloc (.cells (madeCells #[Value.int .i64 0] nv) 2)).alloc (.cells #[.slice (some ⟨Y + 1, 0, none⟩) nv nv] 52)).alloc (.cells #[.slice none 0 0] 52)) := ⟨_, rfl⟩
    rw [← hw5] at HMS HW5 HS5 ⊢
    have HNX1 := Lib.hid (show w.heap.size < Y by have := HNY.out; omega)
    rw [← HW5.out.cell (p := ⟨w.heap.size, 0, none⟩) HNX1.out] at q0
    rw [← HW5.out.cell (p := ⟨X, 1, none⟩) (by show X < Y; omega)] at x1
    have hl0 : w.heap.size < w5.heap.size := by have := HS5.out; have := HNX1.out; omega
    have hlx : X < w5.heap.size := by have := HS5.out; omega
    have HYW := Lib.hid hY
    clear hw5 hY hmk hX
    go_cut [12] (fun v12 wx => ∃ ob vS, v12 = .pointer (some ⟨ob, 0, none⟩) ∧ TS wx (Y + 1) (World.heap (w2.alloc (.cells #[.int .i64 k, .int .i64 1, .slice a2 n2 c2, .slice b2 m2 d2] 27))).size (Y + 1 + 1) Y (Y + 1 + 1 + 1) (Y + 1) nv nv ob k (.slice av nv cv) vS (.slice none 0 0) (.slice none 0 0) (κ (auP l)) (met (auP l) 1 0) [] [] [] ∧ Below Y w4 wx)
    case first =>
      -- {fast
      have HCALL := Lib.hid (fun (wc : World) (hm0 : MS wc (Y + 1) (World.heap (w2.alloc (.cells #[.int .i64 k, .int .i64 1, .slice a2 n2 c2, .slice b2 m2 d2] 27))).size (Y + 1 + 1) Y (Y + 1 + 1 + 1) (Y + 1) nv nv (.slice av nv cv) (.slice none 0 0) (κ (auP l)) [] []) (hs0 : Y + 1 ≤ wc.heap.size) =>
        show Calls Tryd.prog 73 #[.int .i64 1, .pointer (some ⟨Y + 1 + 1, 0, none⟩), .pointer (some ⟨Y, 0, none⟩), .pointer (some ⟨Y + 1 + 1 + 1, 0, none⟩)] wc fun e w' =>
          ∃ vS', e = .returned (.int .i64 0) ∧ MS w' (Y + 1) (World.heap (w2.alloc (.cells #[.int .i64 k, .int .i64 1, .slice a2 n2 c2, .slice b2 m2 d2] 27))).size (Y + 1 + 1) Y (Y + 1 + 1 + 1) (Y + 1) nv nv (.slice av nv cv) vS' (κ (auP l)) (met (auP l) 1 0) [] ∧ MetFrame wc w' (Y + 1 + 1 + 1) (Y + 1) (.slice none 0 0) vS' from
        (meetS 1 wc (Y + 1) _ (Y + 1 + 1) Y (Y + 1 + 1 + 1) (Y + 1) nv nv (.slice av nv cv) (.slice none 0 0) (κ (auP l)) [] [] hm0 hs0 (by omega) (by
          have h1 := cls_lt (auP l) (TidyAuto.stop (auP l)) (fitsP HHL.out).1
          have h2 := cn_le (auP l) (TidyAuto.stop (auP l) + 1)
          rw [HNN.out]; exact Nat.lt_of_lt_of_le h1 h2) (by omega) (by omega) (by decide)).mono (by
          rintro e w6 ⟨v', rfl, hm, hf⟩
          refine ⟨v', by simp [TidyMath.idx], ?_, hf⟩
          rw [met_zero, show [1] = TidyMath.meet (κ (auP l)) [] 1 by simp [TidyMath.meet, TidyMath.idx]]
          exact hm))
      have HZ := Lib.hid (show Below Y w5 (w5.alloc (.cells #[Value.int .i64 0, .int .i64 0, .slice none 0 0, .slice none 0 0] 27)) from (Below.refl _ _).alloc (by have := HS5.out; omega) _)
      have HMA := Lib.hid (HMS.out.below ((Below.refl _ _).alloc (Nat.le_refl _) (.cells #[Value.int .i64 0, .int .i64 0, .slice none 0 0, .slice none 0 0] 27)))
      have HSA := Lib.hid (show Y + 1 ≤ ((w5.alloc (.cells #[Value.int .i64 0, .int .i64 0, .slice none 0 0, .slice none 0 0] 27)).drew).heap.size from by
        show _ ≤ (w5.alloc _).heap.size
        rw [size_alloc']; have := HS5.out; omega)
      have HC1 := Lib.hid (HCALL.out w5.drew (HMS.out.drewN 1) HS5.out)
      have HC2 := Lib.hid (HCALL.out ((w5.alloc (.cells #[Value.int .i64 0, .int .i64 0, .slice none 0 0, .slice none 0 0] 27)).drew) (HMA.out.drewN 1) HSA.out)
      have HF1 := Lib.hid (fun w6 v' (hf : MetFrame w5.drew w6 (Y + 1 + 1 + 1) (Y + 1) (.slice none 0 0) v') => (show Below Y w5.drew w6 from MetFrame.belowS hf (HMS.out.drewN 1) (Nat.le_succ Y) (by show Y ≤ w5.heap.size; have := HS5.out; omega)))
      have HF2 := Lib.hid (fun w6 v' (hf : MetFrame ((w5.alloc (.cells #[Value.int .i64 0, .int .i64 0, .slice none 0 0, .slice none 0 0] 27)).drew) w6 (Y + 1 + 1 + 1) (Y + 1) (.slice none 0 0) v') =>
        And.intro (show Below Y ((w5.alloc (.cells #[Value.int .i64 0, .int .i64 0, .slice none 0 0, .slice none 0 0] 27)).drew) w6 from MetFrame.belowS hf (HMA.out.drewN 1) (Nat.le_succ Y) (by have := HSA.out; omega))
          (show w6.heap[w5.heap.size]? = some (.cells #[Value.int .i64 0, .int .i64 0, .slice none 0 0, .slice none 0 0] 27 (0, 0)) from
            (hf.block w5.heap.size (by show w5.heap.size < (w5.alloc _).heap.size; rw [size_alloc']; omega) (by have := lt_of_block HMS.out.box10; omega) (by have := lt_of_block HMS.out.box10; omega) (fun e => by cases e)).trans (heap_alloc_new w5 _)))
      have HL5 := Lib.hid (show w.heap.size < w5.drew.heap.size from hl0)
      have HL6 := Lib.hid (show w.heap.size < ((w5.alloc (.cells #[Value.int .i64 0, .int .i64 0, .slice none 0 0, .slice none 0 0] 27)).drew).heap.size from by
        show _ < (w5.alloc _).heap.size
        rw [size_alloc']; omega)
      have HQ6 := Lib.hid (show ((w5.alloc (.cells #[Value.int .i64 0, .int .i64 0, .slice none 0 0, .slice none 0 0] 27)).drew).cell? ⟨w.heap.size, 0, none⟩ = some (.int .i64 k) from
        (World.cell?_of_block (w := w5) (w' := w5.alloc _) (Below.heap_alloc _ _ _ hl0)).trans q0)
      go_region_with (first
        | (go_at_call 73; refine HC1.out.mono ?_; rintro e w6 ⟨v', rfl, hm, hf⟩; have HM6 := Lib.hid hm; have HB6 := Lib.hid (HF1.out _ _ hf); have q6 := (HB6.out.cell (p := ⟨w.heap.size, 0, none⟩) (HNX1.out)).trans q0; have hl6 := Nat.lt_of_lt_of_le HL5.out HB6.out.size; clear hm hf)
        | (go_at_call 73; refine HC2.out.mono ?_; rintro e w6 ⟨v', rfl, hm, hf⟩; have HM6 := Lib.hid hm; have HB7 := Lib.hid (HF2.out _ _ hf).1; have HO7 := (HF2.out _ _ hf).2; have q6 := (HB7.out.cell (p := ⟨w.heap.size, 0, none⟩) (HNX1.out)).trans HQ6.out; have hl6 := Nat.lt_of_lt_of_le HL6.out (HB7.out.size); have r0 := cells_get HO7 0; have r1 := cells_get HO7 1; have r2 := cells_get HO7 2; have r3 := cells_get HO7 3; have z0 := cells_free HO7 0; have z1 := cells_free HO7 1; have z2 := cells_free HO7 2; have z3 := cells_free HO7 3; have hlo := lt_of_block HO7; simp at r0 r1 r2 r3; have HO := Lib.hid HO7; clear hm hf HO7))
      all_goals
        go_wp2_with fail
        go_meet
      all_goals (first
        | exact ⟨_, v', rfl, ts_new1 HM6.out (Nat.le_trans HS5.out HB6.out.size), (HW5.out.drew.trans HB6.out).alloc (by have h1 := HB6.out.size; have h2 := HS5.out; have h3 : w5.drew.heap.size = w5.heap.size := rfl; omega) _⟩
        | (have hn := ts_new2 (k := k) HM6.out HS5.out HO.out; exact ⟨_, v', rfl, hn.1, (((HW5.out.trans HZ.out).drew).trans HB7.out).trans (hn.2 Y (Nat.le_succ Y))⟩))
      -- }fast
    case rest =>
      obtain ⟨ob, vS, rfl, hts, hbel⟩ := hcut
      have HTS := Lib.hid hts
      have HBL := Lib.hid hbel
      obtain ⟨Bc, hBc⟩ : ∃ Bc, Bc = (World.heap (w2.alloc (.cells #[.int .i64 k, .int .i64 1, .slice a2 n2 c2, .slice b2 m2 d2] 27))).size := ⟨_, rfl⟩
      rw [← hBc] at HTS
      have HWD := Lib.hid (wide_cases HHL.out.k0 HHL.out.k3)
      have HFIT := Lib.hid (fitsP HHL.out)
      have HFEW := Lib.hid (met_few (fitsP HHL.out))
      have HROK := Lib.hid (rowsOkP HHL.out)
      obtain ⟨wd, hwd⟩ : ∃ wd, wd = wide l.k := ⟨_, rfl⟩
      rw [← hwd] at HROK HWD
      have HMOST := Lib.hid (show TidyAuto.most (auP l) ≤ nv from by rw [HNN.out]; exact cn_le _ _)
      clear hts hbel HMS HW5 q0 x1 hl0 hlx hBc hwd HS5 hmf
      go_wp2_with fail
      go_loopw [13, 14, 15, 16, 57] (fun s13 _ _ _ _ wr => ∃ (i : Nat) (vS va vn : Value) (items : List (Value × List Value)), i ≤ (met (auP l) 1 i).length ∧ s13 = .int .i64 i ∧
        TS wr (Y + 1) Bc (Y + 1 + 1) Y (Y + 1 + 1 + 1) (Y + 1) nv nv ob k (.slice av nv cv) vS va vn (κ (auP l)) (met (auP l) 1 i) [] items (((tid (auP l) 1).take i).map fun s => .bool ((auP l).acc s)) ∧
        items.map Prod.snd = ((tid (auP l) 1).take i).map (fun s => (tidRow (auP l) 1 s).map (Value.int .i64)) ∧ Below Y w4 wr) (fun s13 _ _ _ _ _ => 800010 - (intOf s13).toNat)
      case atStart => exact ⟨0, _, _, _, _, Nat.zero_le _, rfl, HTS.out, rfl, HBL.out⟩
      case round =>
        obtain ⟨i, vS, va, vn, items, hi, rfl, hts, hit, hbel⟩ := hrel
        obtain ⟨W0, hW0⟩ : ∃ W0 : World, W0 = wr := ⟨_, rfl⟩
        subst hW0
        have HD := Lib.hid hts
        have HI := Lib.hid hit
        have HB2 := Lib.hid hbel
        obtain ⟨len, hlen⟩ : ∃ len, len = (met (auP l) 1 i).length := ⟨_, rfl⟩
        have HLEN := Lib.hid hlen
        rw [← hlen] at hi
        have hln8 : len ≤ nv := by rw [hlen]; exact Nat.le_trans (HFEW.out i) HMOST.out
        have c10 := cells_get hts.bx.box10 0
        simp at c10
        have l10 := lt_of_block hts.bx.box10
        obtain ⟨aS, nS, cpS, rfl, HNS⟩ := (Own.get [_] _ hts.bld.own).shape'
        have hnS : nS = len := by rw [HNS.out, iv_length, hlen]
        subst hnS
        clear hts hit hbel hlen HTS HBL
        by_cases hlt : i < nS
        · have hib : i < (met (auP l) 1 i).length := by rw [← HLEN.out]; exact hlt
          obtain ⟨s, hs⟩ : ∃ s, s = (met (auP l) 1 i)[i] := ⟨_, rfl⟩
          have hsn : s < nv := by rw [hs, HNN.out]; exact met_lt HFIT.out i _ (List.getElem_mem hib)
          have HSS := Lib.hid hs
          have HIB := Lib.hid hib
          obtain ⟨gS, rfl, hgS⟩ := (Own.get [_] _ HD.out.bld.own).addr (by rw [iv_length]; omega)
          have c7 := (Own.get [_] _ HD.out.bld.own).cellOf (i := i) (by rw [iv_length]; exact hib)
          rw [iv_get, show (met (auP l) 1 i).getD i 0 = s by rw [List.getD, List.getElem?_eq_getElem hib, Option.getD_some]; exact hs.symm] at c7
          have HBX := Lib.hid (fun W (hb : Below Y w4 W) => (show Below X w2 W from ((Below.refl _ _).alloc (by have := HX.out; omega) _).trans ((HB4.out.mono (by rw [size_alloc']; have := HX.out; omega)).trans (hb.mono (by omega)))))
          have HXC := Lib.hid (fun W (hb : Below Y w4 W) => (hb.block X (by omega)).trans HX4.out)
          have x3 := cells_get (HXC.out _ HB2.out) 3
          simp at x3
          have lx3 := World.block_lt_of_cell? _ _ x3
          obtain ⟨V, ⟨a6, b6, o6, cp6, e6, -, haa6, hca6⟩, hrows⟩ := IntRows.below HNX.out (HBX.out _ HB2.out) (Nat.le_refl _)
          have hrl : ((nxP l).map ofN).length = nv := by rw [List.length_map, HROK.out.1, HNN.out]
          rw [hrl] at e6 haa6 hca6 hrows
          have e6' : b2 = a6 ∧ m2 = nv := by injection e6 with e1 e2; exact ⟨e1, e2⟩
          obtain ⟨rfl, rfl⟩ := e6'
          obtain ⟨rfl, hb6⟩ := haa6 (by omega)
          have n4 := hca6 s hsn
          have hrw := hrows s hsn
          have er : ((nxP l).map ofN).getD s [] = ofN ((auP l).nx s) := by
            show ((nxP l).map ofN).getD s [] = ofN ((nxP l).getD s [])
            have : s < (nxP l).length := by rw [HROK.out.1, ← HNN.out]; exact hsn
            simp [List.getD, this]
          rw [er] at hrw
          have hsA : s < (auP l).n := by rw [← HNN.out]; exact hsn
          have HNXS := Lib.hid (show ((auP l).nx s).length = wd ∧ ∀ q, q < wd → ((auP l).nx s).getD q 0 < m2 by
            rw [HNN.out]; exact HROK.out.2 s hsA)
          obtain ⟨a8, b8, o8, cp8, e8, hml8, haa8, hca8⟩ := hrw
          rw [ofN_length, HNXS.out.1] at e8 haa8 hca8
          rw [e8] at n4
          have hwd0 : 2 ≤ wd ∧ wd ≤ 26 := by have := HWD.out; omega
          have HS0 := Lib.hid (show Y + 1 + 1 + 1 < W0.heap.size from l10)
          have HCL := Lib.hid (show Calls Tryd.prog 74 #[.slice a8 wd cp8] W0.drew fun e w' => ∃ a cap, e = .returned (.slice a wd cap) ∧ Lst w' W0.heap.size 2 (.slice a wd cap) (tv wd (rowX (auP l) 1 s 0)) ∧ Below W0.heap.size W0.drew w' from by
            have h1 := clone (ofN ((auP l).nx s)) (.slice a8 wd cp8) W0.drew X ⟨a8, b8, o8, cp8, by rw [ofN_length, HNXS.out.1], hml8, by rw [ofN_length, HNXS.out.1]; exact haa8, by rw [ofN_length, HNXS.out.1]; exact hca8⟩ (by show X ≤ W0.heap.size; omega) (by rw [ofN_length, HNXS.out.1]; omega) (by rw [ofN_length, HNXS.out.1]; omega)
            rw [ofN_length, HNXS.out.1, rowX_zero (auP l) 1 s wd HNXS.out.1] at h1
            exact h1)
          clear hca6 haa6 e6 hrows hrl er e8 hml8 haa8 hca8 hs hgS
          go_upto_region 12 with fail
          go_cut [14] (fun v14 wx => ∃ a cap, v14 = .slice a wd cap ∧ TS wx (Y + 1) Bc (Y + 1 + 1) Y (Y + 1 + 1 + 1) (Y + 1) m2 m2 ob k (.slice av m2 cv) (.slice (some ⟨gS, 0, none⟩) nS cpS) va vn (κ (auP l)) (met (auP l) 1 i) [(.slice a wd cap, tv wd (rowX (auP l) 1 s 0))] items (((tid (auP l) 1).take i).map fun s => .bool ((auP l).acc s)) ∧ Below Y w4 wx)
          case first =>
            go_region_with (go_at_call 74; refine HCL.out.mono ?_; rintro e w6 ⟨a, cap, rfl, hl6, hb6'⟩; have HL6 := Lib.hid hl6; have HB6 := Lib.hid hb6'; clear hl6 hb6')
            all_goals
              go_wp2_with fail
              go_meet
              exact ⟨a, cap, rfl, TS.addRow (HD.out.drewN 1) HB6.out (HL6.out.mono (by have := HS0.out; omega)) (fun q hq => HL6.out.ge hq), HB2.out.drew.trans (HB6.out.mono (by have := HS0.out; omega))⟩
          case rest =>
            obtain ⟨a, cap, rfl, hts1, hb1⟩ := hcut
            obtain ⟨gR, rfl, hgR⟩ := (Own.get [_, _] _ hts1.bld.own).addr (by rw [tv_length]; omega)
            have HT1 := Lib.hid hts1
            have HB1 := Lib.hid hb1
            clear hts1 hb1 c7 x3 n4 lx3 c10 l10 hgR
            go_wp2_with fail
            go_loopw [15, 16, 57] (fun _ _ s57 wr' => ∃ (c : Nat) (vS : Value), c ≤ wd ∧ s57 = .int .i64 c ∧ TS wr' (Y + 1) Bc (Y + 1 + 1) Y (Y + 1 + 1 + 1) (Y + 1) m2 m2 ob k (.slice av m2 cv) vS va vn (κ (auP l)) (pt (auP l) 1 i c) [(.slice (some ⟨gR, 0, none⟩) wd cap, tv wd (rowX (auP l) 1 s c))] items (((tid (auP l) 1).take i).map fun s => .bool ((auP l).acc s)) ∧ Below Y w4 wr') (fun _ _ s57 _ => 27 - (intOf s57).toNat)
            case atStart => exact ⟨0, _, Nat.zero_le _, rfl, by rw [pt_zero]; exact HT1.out, HB1.out⟩
            case round =>
              obtain ⟨c, vS, hc, rfl, hts, hbel⟩ := hrel
              have HE := Lib.hid hts
              have HB3 := Lib.hid hbel
              clear HT1 HB1
              by_cases hcl : c < wd
              · obtain ⟨t, ht⟩ : ∃ t, t = ((auP l).nx s).getD c 0 := ⟨_, rfl⟩
                have htn : t < m2 := by rw [ht]; exact HNXS.out.2 c hcl
                have hcl' : c < ((auP l).nx s).length := by rw [HNXS.out.1]; exact hcl
                have htg : ((auP l).nx s)[c] = t := by rw [ht, List.getD, List.getElem?_eq_getElem hcl', Option.getD_some]
                have HY := Lib.hid (pt_step HFIT.out HIB.out HSS.out.symm hcl' htg).1
                have HTN := Lib.hid (tid_num HFIT.out HIB.out HSS.out.symm hcl' htg)
                have cR := (Own.get [_, _] _ hts.bld.own).cellOf (i := c) (by rw [tv_length]; exact hcl)
                rw [tv_get, show rowX (auP l) 1 s c c = (t : Nat) by unfold rowX; rw [if_neg (Nat.lt_irrefl c), ht]] at cR
                have lR := World.block_lt_of_cell? _ _ cR
                have hpf : (pt (auP l) 1 i c).length ≤ 1000000 := by have h1 := pt_few HFIT.out (c := c) HIB.out; have h2 := HMOST.out; omega
                have HSZ := Lib.hid (show Y + 1 ≤ wr.heap.size by have := lt_of_block hts.bx.box10; omega)
                have HMEET := Lib.hid (meetS t wr (Y + 1) Bc (Y + 1 + 1) Y (Y + 1 + 1 + 1) (Y + 1) m2 m2 (.slice av m2 cv) vS (κ (auP l)) (pt (auP l) 1 i c) ([(.slice (some ⟨gR, 0, none⟩) wd cap, tv wd (rowX (auP l) 1 s c))] ++ items) hts.ms HSZ.out htn (by
                  have h1 := cls_lt (auP l) (TidyAuto.stop (auP l)) (s := t) (by rw [← HNN.out]; exact htn)
                  have h2 := cn_le (auP l) (TidyAuto.stop (auP l) + 1)
                  rw [HNN.out]; exact Nat.lt_of_lt_of_le h1 h2) (by omega) (by omega) (by omega))
                obtain ⟨d, hd⟩ : ∃ d, d = TidyMath.idx (κ (auP l)) (pt (auP l) 1 i c) t := ⟨_, rfl⟩
                rw [← hd] at HMEET HTN
                rw [← HY.out] at HMEET
                have HARM := Lib.hid (fun (w6 : World) (vS' : Value) (hm : MS w6 (Y + 1) Bc (Y + 1 + 1) Y (Y + 1 + 1 + 1) (Y + 1) m2 m2 (.slice av m2 cv) vS' (κ (auP l)) (pt (auP l) 1 i (c + 1)) ([(.slice (some ⟨gR, 0, none⟩) wd cap, tv wd (rowX (auP l) 1 s c))] ++ items)) (hf : MetFrame wr w6 (Y + 1 + 1 + 1) (Y + 1) vS vS') =>
                  And.intro (TS.met HE.out hm hf) (HB3.out.trans (MetFrame.belowS hf HE.out.ms (Nat.le_succ Y) (by have := HSZ.out; omega))))
                have HCEL := Lib.hid (fun (w6 : World) (vS' : Value) (hm : MS w6 (Y + 1) Bc (Y + 1 + 1) Y (Y + 1 + 1 + 1) (Y + 1) m2 m2 (.slice av m2 cv) vS' (κ (auP l)) (pt (auP l) 1 i (c + 1)) ([(.slice (some ⟨gR, 0, none⟩) wd cap, tv wd (rowX (auP l) 1 s c))] ++ items)) (hf : MetFrame wr w6 (Y + 1 + 1 + 1) (Y + 1) vS vS') =>
                  (show w6.cell? ⟨gR, c, none⟩ = some (.int .i64 (rowX (auP l) 1 s c c)) ∧ w6.frozen? ⟨gR, c, none⟩ = false from by
                    have h7 := Own.get [_, _] _ (HARM.out w6 vS' hm hf).1.bld.own
                    have c7 := h7.cellOf (i := c) (by rw [tv_length]; exact hcl)
                    rw [tv_get] at c7
                    exact ⟨c7, h7.free c⟩))
                have HGR := Lib.hid (show Y + 1 ≤ gR from (Own.get [_, _] _ hts.bld.own).ge (k := gR) rfl)
                clear hts hbel ht htg hcl' hd
                go_wp2_with (go_at_call 73; refine HMEET.out.mono ?_; rintro e w6 ⟨vS', rfl, hm, hf⟩; have HA6 := Lib.hid (HARM.out w6 vS' hm hf); have c7 := (HCEL.out w6 vS' hm hf).1; have f7 := (HCEL.out w6 vS' hm hf).2; have l7 := World.block_lt_of_cell? _ _ c7; clear hm hf)
                go_roundw
                case rel =>
                  have h1 := HA6.out.1.setRow (c := c) (by rw [tv_length]; exact hcl) (.int .i64 (d : Nat))
                  rw [rowX_set (auP l) 1 s wd c (d : Nat) HTN.out.symm] at h1
                  exact ⟨c + 1, vS', hcl, by go_num, h1, HA6.out.2.setCell (by show Y ≤ gR; have := HGR.out; omega) _⟩
                case measure => simp [intOf]; omega
              · obtain rfl : wd = c := by omega
                have HPE := Lib.hid (show pt (auP l) 1 i wd = met (auP l) 1 (i + 1) from pt_end HIB.out (by rw [← HSS.out, HNXS.out.1]; exact Nat.le_refl _))
                have HTS := Lib.hid (show (tid (auP l) 1).take (i + 1) = (tid (auP l) 1).take i ++ [s] by
                  obtain ⟨h1, h2⟩ := met_get HFIT.out HIB.out
                  rw [take_succ_getD _ 0 i h1, List.getD, List.getElem?_eq_getElem h1, Option.getD_some, h2, ← HSS.out])
                have HTL := Lib.hid (show (tid (auP l) 1).length ≤ 1000000 by have h1 : (tid (auP l) 1).length ≤ TidyAuto.most (auP l) := HFEW.out (TidyAuto.most (auP l)); have h2 := HMOST.out; omega)
                have HAL := Lib.hid (show (((tid (auP l) 1).take i).map fun s => Value.bool ((auP l).acc s)).length ≤ 100000000 by rw [List.length_map, List.length_take]; have := HTL.out; omega)
                have HIL := Lib.hid (show (items.map Prod.fst).length ≤ 100000000 by
                  have := congrArg List.length HI.out
                  rw [List.length_map, List.length_map, List.length_take] at this
                  have h9 := HTL.out
                  rw [List.length_map, this]; omega)
                obtain ⟨hi7, hg7⟩ := pt_get (c := wd) HIB.out
                rw [← HSS.out] at hg7
                obtain ⟨aT, nT, cpT, rfl, HNT⟩ := (Own.get [_] _ hts.bld.own).shape'
                have hnT : nT = (pt (auP l) 1 i wd).length := by rw [HNT.out, iv_length]
                obtain ⟨gT, rfl, -⟩ := (Own.get [_] _ hts.bld.own).addr (by rw [iv_length]; omega)
                have c7 := (Own.get [_] _ hts.bld.own).cellOf (i := i) (by rw [iv_length]; exact hi7)
                rw [iv_get, show (pt (auP l) 1 i wd).getD i 0 = s by rw [List.getD, List.getElem?_eq_getElem hi7, Option.getD_some]; exact hg7] at c7
                have hiT : i < nT := by rw [hnT]; exact hi7
                have c10 := cells_get hts.bx.box10 0
                simp at c10
                have l10 := lt_of_block hts.bx.box10
                have x2 := cells_get (HXC.out _ HB3.out) 2
                simp at x2
                have lx2 := World.block_lt_of_cell? _ _ x2
                obtain ⟨a9, b9, o9, cp9, e9, -, haa9, hca9⟩ := Bools.below HACC.out (HBX.out _ HB3.out) (Nat.le_refl _)
                have hal : (accP l).length = m2 := by rw [accP_len, HNN.out]; rfl
                rw [hal] at e9 haa9 hca9
                have e9' : a2 = a9 ∧ n2 = m2 := by injection e9 with e1 e2; exact ⟨e1, e2⟩
                obtain ⟨rfl, rfl⟩ := e9'
                obtain ⟨rfl, -⟩ := haa9 (by omega)
                have hac : wr.cell? ⟨b9, o9 + s, none⟩ = some (.bool ((auP l).acc s)) := hca9 s hsn
                obtain ⟨u, hu⟩ : ∃ u, u = (auP l).acc s := ⟨_, rfl⟩
                rw [← hu] at hac
                have HU := Lib.hid hu
                have k2 := hts.bld.c2
                have hZl := hts.bld.lt
                have hfz := cells_free hts.bld.at_ 2
                have HSZ := Lib.hid (show Y + 1 ≤ wr.drew.heap.size by show Y + 1 ≤ wr.heap.size; omega)
                have HED := Lib.hid (hts.drewN 1)
                have HBD := Lib.hid HB3.out.drew
                clear hts hbel hca9 haa9 e9 hal hu hi7 hg7 hnT HNT
                go_upto_region 18 with fail
                go_cut [] (fun wx => ∃ va', TS wx (Y + 1) Bc (Y + 1 + 1) Y (Y + 1 + 1 + 1) (Y + 1) n2 n2 ob k (.slice av n2 cv) (.slice (some ⟨gT, 0, none⟩) nT cpT) va' vn (κ (auP l)) (pt (auP l) 1 i wd) [(.slice (some ⟨gR, 0, none⟩) wd cap, tv wd (rowX (auP l) 1 s wd))] items ((((tid (auP l) 1).take i).map fun s => .bool ((auP l).acc s)) ++ [.bool u]) ∧ Below Y w4 wx)
                case first =>
                  go_region_law (refine step_push rfl _ _ 22 rfl 4 (.bool false) 1 Tryd.underlying22 info4 (by decide) (by decide) (Y + 1) va _ (.bool u) HED.out.bld.acc HSZ.out rfl HAL.out (by simp [Act.eval, Act.put]) _ (by simp [Act.eval, Act.put]) rfl ?_; intro v4 w4' hp4; obtain ⟨a4, n4, cp4, rfl, HN4⟩ := hp4.lst.shape'; have o4 := HED.out.bld.obAcc hp4; have q2 := (cells_get o4 2); have z2 := cells_free o4 2; have hl4 := (lt_of_block o4); have HT4 := Lib.hid (HED.out.pushAcc hp4); have HB4 := Lib.hid ((HBD.out.grown hp4.grow (Nat.le_of_succ_le HSZ.out) (fun q hq => Nat.le_of_succ_le (HED.out.bld.acc.ge hq))).setCell (p := ⟨ob, 2, none⟩) (Nat.le_of_succ_le HED.out.bld.obB) (.slice a4 n4 cp4)); simp at q2; clear hp4 o4)
                  all_goals
                    go_wp2_with fail
                    go_meet
                    exact ⟨_, HT4.out, HB4.out⟩
                case rest =>
                  obtain ⟨va4, hcb, hcb2⟩ := hcut
                  have HT4 := Lib.hid hcb
                  have HB4 := Lib.hid hcb2
                  have q3 := hcb.bld.c3
                  have hl4 := hcb.bld.lt
                  have z3 := cells_free hcb.bld.at_ 3
                  have HS4 := Lib.hid (show Y + 1 ≤ wc.heap.size by have := lt_of_block hcb.bx.box10; omega)
                  clear hcb hcb2 hac x2 lx2 c7 c10 l10 k2 hZl hfz
                  go_wp2_with (at_builtin; refine wpList_push rfl _ _ 23 rfl 52 (.slice none 0 0) 24 Tryd.underlying23 info54 (by decide) (by decide) (Y + 1) vn _ (.slice (some ⟨gR, 0, none⟩) wd cap) HT4.out.bld.nxt HS4.out rfl HIL.out rfl _ rfl rfl ?_; intro v5 w5 hp5; obtain ⟨a5, n5, cp5, rfl, HN5⟩ := hp5.lst.shape'; have o5 := HT4.out.bld.obNext hp5; have q5 := (cells_get o5 3); have z5 := cells_free o5 3; have hl5 := (lt_of_block o5); have HT5 := Lib.hid (HT4.out.pushNext hp5); have HB5 := Lib.hid ((HB4.out.grown hp5.grow (Nat.le_of_succ_le HS4.out) (fun q hq => Nat.le_of_succ_le (HT4.out.bld.nxt.ge hq))).setCell (p := ⟨ob, 3, none⟩) (Nat.le_of_succ_le HT4.out.bld.obB) (.slice a5 n5 cp5)); simp at q5; clear hp5 o5)
                  go_roundw
                  case rel =>
                    have h1 := HT5.out
                    have h3 : [Value.bool u] = List.map (fun s => Value.bool ((auP l).acc s)) [s] := by rw [HU.out]; rfl
                    rw [h3, ← List.map_append, ← HTS.out, HPE.out] at h1
                    refine ⟨i + 1, _, _, _, _, ?_, by go_num, h1, ?_, HB5.out⟩
                    · have h2 := met_step (A := auP l) (x0 := 1) i; have h3 := HIB.out; omega
                    · rw [HTS.out, List.map_append, List.map_append, HI.out, rowX_end (auP l) 1 s wd HNXS.out.1]; rfl
                  case measure => simp [intOf]; omega
        · obtain rfl : nS = i := by omega
          have hME : met (auP l) 1 nS = tid (auP l) 1 := met_end HFIT.out (Nat.le_of_eq HLEN.out.symm)
          have HTI := Lib.hid (show (tid (auP l) 1).take nS = tid (auP l) 1 from List.take_of_length_le (by rw [← hME]; exact Nat.le_of_eq HLEN.out.symm))
          have HTE := Lib.hid (show (tidyAcc l).length = nS by rw [← HFW.out.1, ← hME]; exact HLEN.out.symm)
          have HTP := Lib.hid (tidyP HHL.out)
          obtain ⟨a4, n4, cp4, rfl, -⟩ := HD.out.bld.acc.shape'
          obtain ⟨a5, n5, cp5, rfl, -⟩ := HD.out.bld.nxt.shape'
          have HBU5 := Lib.hid (show Built W0 (Y + 1) (.slice a4 n4 cp4) (.slice a5 n5 cp5) (tidyAcc l) (tidyNext l) from Built.of_bld HD.out.bld (by rw [HTI.out, ← HTP.out.2.1]; unfold tidAcc; rw [List.map_map]; rfl) (by rw [HI.out, HTI.out, ← HTP.out.2.2]; unfold tidNext; rw [List.map_map]; rfl))
          have hres : W0.heap[w.heap.size + 1]? = some (.cells #[Value.int .i64 0, .int .i64 0, .slice none 0 0, .slice none 0 0] 27 (0, 0)) := (HB2.out.block _ (by have := HNY.out; omega)).trans HKR.out
          have HBF := Lib.hid (show Below w.heap.size w W0 from HBW.out.trans (HB2.out.mono (by have := HNX1.out; omega)))
          have y0 := cells_get HD.out.bld.at_ 0
          have y1 := cells_get HD.out.bld.at_ 1
          have y2 := cells_get HD.out.bld.at_ 2
          have y3 := cells_get HD.out.bld.at_ 3
          have r0 := cells_get hres 0
          have r1 := cells_get hres 1
          have r2 := cells_get hres 2
          have r3 := cells_get hres 3
          have f0 := cells_free hres 0
          have f1 := cells_free hres 1
          have f2 := cells_free hres 2
          have f3 := cells_free hres 3
          have hlZ := HD.out.bld.lt
          have hlS := lt_of_block hres
          simp at y0 y1 y2 y3 r0 r1 r2 r3
          have hlow : w.heap.size + 1 < Y + 1 := by have := HNX1.out; omega
          have HLOW := Lib.hid hlow
          by_cases hf : nS ≤ mst
          · have HFB := Lib.hid (show fewB l mst = true by unfold fewB; rw [HTE.out]; exact decide_eq_true hf)
            have p0 := cells_set hres 0 (.int .i64 k)
            have p1 := cells_set p0 1 (.int .i64 0)
            have p2 := cells_set p1 2 (.slice a4 n4 cp4)
            have p3 := cells_set p2 3 (.slice a5 n5 cp5)
            simp at p3
            have g0 := cells_get p3 0
            have g1 := cells_get p3 1
            have g2 := cells_get p3 2
            have g3 := cells_get p3 3
            simp at g0 g1 g2 g3
            have HG := Lib.hid (And.intro g0 (And.intro g1 (And.intro g2 g3)))
            clear p0 p1 p2 p3 g0 g1 g2 g3 hME hres
            go_wp2_with fail
            obtain ⟨g0, g1, g2, g3⟩ := HG.out
            refine bodyPost_ret (v := .tuple #[.agg #[.int .i64 k, .int .i64 0, .slice a4 n4 cp4, .slice a5 n5 cp5], .bool true]) (by simp [results, Tryd.results66, go_sem, g0, g1, g2, g3]) rfl ⟨.slice a4 n4 cp4, .slice a5 n5 cp5, by unfold fewK; rw [HFB.out, if_pos rfl, HKK.out], ?_, ?_⟩
            · unfold fewA fewN
              rw [HFB.out, if_pos rfl, if_pos rfl]
              exact (((((HBU5.out.setLow (a := ⟨w.heap.size + 1, 0, none⟩) HLOW.out _).setLow (a := ⟨w.heap.size + 1, 1, none⟩) HLOW.out _).setLow (a := ⟨w.heap.size + 1, 2, none⟩) HLOW.out _).setLow (a := ⟨w.heap.size + 1, 3, none⟩) HLOW.out _).mono (by have := HNX1.out; omega))
            · exact (((((HBF.out.setCell (p := ⟨w.heap.size + 1, 0, none⟩) (Nat.le_succ _) _).setCell (p := ⟨w.heap.size + 1, 1, none⟩) (Nat.le_succ _) _).setCell (p := ⟨w.heap.size + 1, 2, none⟩) (Nat.le_succ _) _).setCell (p := ⟨w.heap.size + 1, 3, none⟩) (Nat.le_succ _) _))
          · have HFB := Lib.hid (show fewB l mst = false by unfold fewB; rw [HTE.out]; exact decide_eq_false hf)
            have p0 := cells_set hres 0 (.int .i64 0)
            have p1 := cells_set p0 1 (.int .i64 0)
            have p2 := cells_set p1 2 (Value.slice none 0 0)
            have p3 := cells_set p2 3 (Value.slice none 0 0)
            simp at p3
            have g0 := cells_get p3 0
            have g1 := cells_get p3 1
            have g2 := cells_get p3 2
            have g3 := cells_get p3 3
            simp at g0 g1 g2 g3
            have HG := Lib.hid (And.intro g0 (And.intro g1 (And.intro g2 g3)))
            clear p0 p1 p2 p3 g0 g1 g2 g3 hME hres
            go_wp2_with fail
            obtain ⟨g0, g1, g2, g3⟩ := HG.out
            refine bodyPost_ret (v := .tuple #[.agg #[.int .i64 0, .int .i64 0, .slice none 0 0, .slice none 0 0], .bool false]) (by simp [results, Tryd.results66, go_sem, g0, g1, g2, g3]) rfl ⟨.slice none 0 0, .slice none 0 0, by unfold fewK; rw [HFB.out]; rfl, by unfold fewA fewN; rw [HFB.out]; exact built_none _ _, ?_⟩
            exact (((((HBF.out.setCell (p := ⟨w.heap.size + 1, 0, none⟩) (Nat.le_succ _) _).setCell (p := ⟨w.heap.size + 1, 1, none⟩) (Nat.le_succ _) _).setCell (p := ⟨w.heap.size + 1, 2, none⟩) (Nat.le_succ _) _).setCell (p := ⟨w.heap.size + 1, 3, none⟩) (Nat.le_succ _) _))
  · rw [decide_eq_false hq]
    have HFB := Lib.hid (show fewB l mst = false by unfold fewB; have h1 := HFW.out.2; have h2 := HM1.out; exact decide_eq_false (by omega))
    have hres := HKR.out
    have r0 := cells_get hres 0
    have r1 := cells_get hres 1
    have r2 := cells_get hres 2
    have r3 := cells_get hres 3
    have f0 := cells_free hres 0
    have f1 := cells_free hres 1
    have f2 := cells_free hres 2
    have f3 := cells_free hres 3
    have hlS := lt_of_block hres
    have p0 := cells_set hres 0 (.int .i64 0)
    have p1 := cells_set p0 1 (.int .i64 0)
    have p2 := cells_set p1 2 (Value.slice none 0 0)
    have p3 := cells_set p2 3 (Value.slice none 0 0)
    simp at r0 r1 r2 r3 p3
    have p4 := (Below.heap_alloc _ (.cells #[.slice av nv cv] 120) _ (lt_of_block p3)).trans p3
    have g0 := cells_get p4 0
    have g1 := cells_get p4 1
    have g2 := cells_get p4 2
    have g3 := cells_get p4 3
    simp at g0 g1 g2 g3
    have HG := Lib.hid (And.intro g0 (And.intro g1 (And.intro g2 g3)))
    clear p0 p1 p2 p3 p4 g0 g1 g2 g3 hres
    go_wp2_with fail
    obtain ⟨g0, g1, g2, g3⟩ := HG.out
    refine bodyPost_ret (v := .tuple #[.agg #[.int .i64 0, .int .i64 0, .slice none 0 0, .slice none 0 0], .bool false]) (by simp [results, Tryd.results66, go_sem, g0, g1, g2, g3]) rfl ⟨.slice none 0 0, .slice none 0 0, by unfold fewK; rw [HFB.out]; rfl, by unfold fewA fewN; rw [HFB.out]; exact built_none _ _, ?_⟩
    exact ((((HBW.out.setCell (p := ⟨w.heap.size + 1, 0, none⟩) (Nat.le_succ _) _).setCell (p := ⟨w.heap.size + 1, 1, none⟩) (Nat.le_succ _) _).setCell (p := ⟨w.heap.size + 1, 2, none⟩) (Nat.le_succ _) _).setCell (p := ⟨w.heap.size + 1, 3, none⟩) (Nat.le_succ _) _).alloc (by simp [World.setCell]; have := HBW.out.size; omega) _
end Go.Proofs.YtaimealknkhfbaaDoor.ImplTidied
