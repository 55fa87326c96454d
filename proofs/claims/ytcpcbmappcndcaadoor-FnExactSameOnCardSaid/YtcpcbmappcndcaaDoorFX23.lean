
/- What the program's onlyPads and aloneOn hand back.
   Conditions: stated at each theorem. -/
import Derived.Test.YtcpcbmappcndcaaDoorFX10
import Derived.Test.YtcpcbmappcndcaaDoorFX21
import Derived.Test.YtcpcbmappcndcaaDoorFX19
import Derived.Test.YtcpcbmappcndcaaDoorFX8
namespace Go.Proofs.YtcpcbmappcndcaaDoor.AloneI
set_option linter.unusedVariables false
set_option linter.unusedSimpArgs false
set_option maxRecDepth 100000
open Go.RowKit Go.Maps Mem Copy Rel Valid Heap Bld Columns ColMath SpecFiner Numbers TidyMath TidyAuto TidyRight SpecRight ImplRight ImplTidied ErrCode Automaton TapeMath WithMath Reread RereadI TapeI WithoutI WithI

theorem padsI (w : World) : Calls Tryd.prog 79 #[] w fun e w' => e = .returned (.agg #[.int .u8 35, .int .u8 35, .int .u8 35]) ∧ Below w.heap.size w w' := by
  have hb1 := heap_alloc_new w (.cells #[Value.int .u8 0, .int .u8 0, .int .u8 0] 82)
  have y0 := cells_get hb1 0
  have y1 := cells_get hb1 1
  have y2 := cells_get hb1 2
  have g0 := cells_free hb1 0
  have g1 := cells_free hb1 1
  have g2 := cells_free hb1 2
  simp at y0 y1 y2
  have HB1 := Lib.hid hb1
  go_enter Tryd.func79, Tryd.ntmps79
  go_wp2_with fail
  first
    | (go_ret; exact ⟨rfl, (Below.refl _ _).alloc (Nat.le_refl _) _⟩)
    | (refine bodyPost_ret (v := .agg #[.int .u8 35, .int .u8 35, .int .u8 35]) (by simp [results, Tryd.results79, go_sem]) rfl ⟨rfl, ?_⟩
       exact (Below.refl _ _).alloc (Nat.le_refl _) _)
    | (obtain ⟨r0, r1, r2⟩ := res3 (W := w.alloc (.cells #[Value.int .u8 0, .int .u8 0, .int .u8 0] 82)) (N := w.heap.size) (a := .int .u8 35) (b := .int .u8 35) (c := .int .u8 35) HB1.out
       refine bodyPost_ret (v := .agg #[.int .u8 35, .int .u8 35, .int .u8 35]) (by simp [results, Tryd.results79, go_sem, r0, r1, r2]) rfl ⟨rfl, ?_⟩
       exact ((((Below.refl _ _).alloc (Nat.le_refl _) _).setCell (p := ⟨w.heap.size, 0, none⟩) (Nat.le_refl _) _).setCell (p := ⟨w.heap.size, 1, none⟩) (Nat.le_refl _) _).setCell (p := ⟨w.heap.size, 2, none⟩) (Nat.le_refl _) _)

def padFine : Bool := (List.range 3).all fun k => k == 0 || (List.range 3).all fun t => letT k (wide k : Nat) t == 35
theorem padFine_true : padFine = true := by decide +kernel
theorem pad_fin {k t : Nat} (h1 : 1 ≤ k) (h2 : k ≤ 2) (ht : t < 3) : letT k (wide k : Nat) t = 35 := by
  have h := padFine_true
  unfold padFine at h
  have hk := List.all_eq_true.1 h k (List.mem_range.2 (by omega))
  rw [Bool.or_eq_true] at hk
  rcases hk with hk | hk
  · simp at hk; omega
  · exact eq_of_beq (List.all_eq_true.1 hk t (List.mem_range.2 ht))
/-- What has a letter on one tape alone, as letters. -/
theorem alone_letters {k tape c : Nat} (h2 : 2 ≤ k) (h3 : k ≤ 3) (ht : tape < k) (hc : c < 2) :
    lettersV k (aloneN k tape c : Nat) = .agg #[.int .u8 (if tape = 0 then letA c else 35), .int .u8 (if tape = 0 then 35 else if tape = 1 then letA c else 35), .int .u8 (if tape = 2 then letA c else 35)] := by
  obtain ⟨j, rfl⟩ : ∃ j, k = j + 1 := ⟨k - 1, by omega⟩
  have hf := (with_fin (k := j) (a := tape) (d := c) (c := wide j) (by omega) (by omega) (by omega) (by omega) (Nat.le_refl _)).2.2
  have e : ∀ t, t < 3 → letT (j + 1) (aloneN (j + 1) tape c : Nat) t = letJ tape c j (wide j) t := fun t ht => (hf t ht).symm
  have hp := fun t (ht : t < 3) => pad_fin (k := j) (t := t) (by omega) (by omega) ht
  unfold lettersV
  rw [e 0 (by omega), e 1 (by omega), e 2 (by omega)]
  have p0 := hp 0 (by omega)
  have p1 := hp 1 (by omega)
  have p2 := hp 2 (by omega)
  unfold letJ
  have : tape = 0 ∨ tape = 1 ∨ tape = 2 := by omega
  rcases this with rfl | rfl | rfl <;> simp [p0, p1, p2]

set_option maxHeartbeats 8000000 in
theorem aloneRule (k tape c : Nat) (h2 : 2 ≤ k) (h3 : k ≤ 3) (ht : tape < k) (hc : c < 2) (b1 : Nat) (W : World) (hb : W.cell? ⟨b1, 0, none⟩ = some (.int .i64 tape)) (l1 : b1 < W.heap.size) :
    Calls Tryd.prog 78 #[lettersV 1 c, .pointer (some ⟨b1, 0, none⟩)] W fun e w' => e = .returned (lettersV k (aloneN k tape c : Nat)) ∧ Below W.heap.size W w' := by
  have HPA := Lib.hid (fun W => padsI W)
  have HE := Lib.hid (alone_letters h2 h3 ht hc)
  obtain ⟨x0, hx0⟩ : ∃ x : Int, x = letA c := ⟨_, rfl⟩
  have HWI := Lib.hid (fun W => withAny 35 35 35 x0 tape (by omega) W)
  rw [← hx0] at HE
  have ev : lettersV 1 c = .agg #[.int .u8 x0, .int .u8 35, .int .u8 35] := by
    rw [hx0]
    have : c = 0 ∨ c = 1 := by omega
    rcases this with rfl | rfl <;> rfl
  rw [ev, HE.out]
  obtain ⟨y0, hy0⟩ : ∃ x : Int, x = if tape = 0 then x0 else 35 := ⟨_, rfl⟩
  obtain ⟨y1, hy1⟩ : ∃ x : Int, x = if tape = 0 then 35 else if tape = 1 then x0 else 35 := ⟨_, rfl⟩
  obtain ⟨y2, hy2⟩ : ∃ x : Int, x = if tape = 2 then x0 else 35 := ⟨_, rfl⟩
  rw [← hy0, ← hy1, ← hy2] at HWI ⊢
  have q1 : b1 < W.heap.size + 1 := by omega
  obtain ⟨W2, hW2⟩ : ∃ W2, W2 = ((W.alloc (.cells #[.int .u8 x0, .int .u8 35, .int .u8 35] 82)).alloc (.cells #[Value.int .u8 0, .int .u8 0, .int .u8 0] 82)) := ⟨_, rfl⟩
  have HAT := Lib.hid (fun W3 (h : Below (W.heap.size + 2) W2 W3) => (show W3.heap[W.heap.size]? = some (.cells #[.int .u8 x0, .int .u8 35, .int .u8 35] 82 (0, 0)) ∧ W3.heap[W.heap.size + 1]? = some (.cells #[Value.int .u8 0, .int .u8 0, .int .u8 0] 82 (0, 0)) ∧ W3.cell? ⟨b1, 0, none⟩ = some (.int .i64 tape) ∧ W.heap.size + 2 ≤ W3.heap.size ∧ Below W.heap.size W W3 from by
    have hs : W2.heap.size = W.heap.size + 2 := by rw [hW2, size_alloc', size_alloc']
    have hb2 : Below W.heap.size W W2 := by rw [hW2]; exact ((Below.refl _ W).alloc (Nat.le_refl _) _).alloc (by simp) _
    refine ⟨?_, ?_, ?_, by have := h.size; omega, hb2.trans (h.mono (by omega))⟩
    · rw [h.block _ (by omega), hW2, Below.heap_alloc _ _ _ (by rw [size_alloc']; omega)]; exact heap_alloc_new _ _
    · rw [h.block _ (by omega), hW2]
      have := heap_alloc_new (W.alloc (.cells #[.int .u8 x0, .int .u8 35, .int .u8 35] 82)) (.cells #[Value.int .u8 0, .int .u8 0, .int .u8 0] 82)
      rwa [size_alloc'] at this
    · rw [h.cell (p := ⟨b1, 0, none⟩) (by show b1 < _; omega), hb2.cell (p := ⟨b1, 0, none⟩) l1]; exact hb))
  have HWE := Lib.hid hW2
  have HS2 := Lib.hid (show W2.heap.size = W.heap.size + 2 by rw [hW2, size_alloc', size_alloc'])
  clear ev hx0 hy0 hy1 hy2 HE hW2
  go_enter Tryd.func78, Tryd.ntmps78
  go_wp2_with fail
  rw [← HWE.out]
  have hd0 : Below (W.heap.size + 2) W2 W2.drew := below_drewN (Below.refl _ _) 1
  obtain ⟨hx, hz, hq, hs, -⟩ := HAT.out _ hd0
  have x0' := cells_get hx 0
  simp at x0'
  have HD0 := Lib.hid hd0
  clear hx hz hd0
  go_region_with (first
    | (go_at_call 79; refine (HPA.out _).mono ?_; rintro e w3 ⟨rfl, hb3⟩; have HB3 := Lib.hid (show Below (W.heap.size + 2) W2 w3 from Below.trans HD0.out (hb3.mono (by show W.heap.size + 2 ≤ W2.heap.size; rw [HS2.out]; exact Nat.le_refl _))); obtain ⟨hx3, -, hq3, hs3, -⟩ := HAT.out _ HB3.out; have x03 := cells_get hx3 0; simp at x03; clear hx3 hb3)
    | (go_at_call 64; refine (HWI.out _).mono ?_; rintro e w4 ⟨rfl, hb4⟩; have HB4 := Lib.hid (show Below (W.heap.size + 2) W2 w4 from Below.trans HB3.out (hb4.mono hs3)); obtain ⟨-, hz4, -, hs4, hbas⟩ := HAT.out _ HB4.out; have HZ4 := Lib.hid hz4; have HBAS := Lib.hid hbas; have c0 := cells_get hz4 0; have c1 := cells_get hz4 1; have c2 := cells_get hz4 2; have g0 := cells_free hz4 0; have g1 := cells_free hz4 1; have g2 := cells_free hz4 2; simp at c0 c1 c2; clear hz4 hb4 hbas))
  all_goals
    go_wp2_with fail
    obtain ⟨r0, r1, r2⟩ := res3 (W := w4) (N := W.heap.size + 1) (a := .int .u8 y0) (b := .int .u8 y1) (c := .int .u8 y2) HZ4.out
    refine bodyPost_ret (v := .agg #[.int .u8 y0, .int .u8 y1, .int .u8 y2]) (by simp [results, Tryd.results78, go_sem, r0, r1, r2]) rfl ⟨rfl, ?_⟩
    exact ((HBAS.out.setCell (p := ⟨W.heap.size + 1, 0, none⟩) (Nat.le_succ _) _).setCell (p := ⟨W.heap.size + 1, 1, none⟩) (Nat.le_succ _) _).setCell (p := ⟨W.heap.size + 1, 2, none⟩) (Nat.le_succ _) _

set_option maxHeartbeats 8000000 in
theorem aloneI (l : L) (hl : l.Ok) (h2 : 2 ≤ l.k) (tape : Nat) (hat : tape < l.k) (v : Value) (w : World) (B : Nat) (h : RelAt w B v (relOf l)) (hB : B ≤ w.heap.size) (hn : l.acc.length ≤ 100000) :
    Calls Tryd.prog 58 #[v, .int .i64 tape] w fun e w' => ∃ va vn, e = .returned (.agg #[.int .i64 1, .int .i64 (l.start : Nat), va, vn]) ∧ (∃ x y z, v = .agg #[x, y, va, z]) ∧ Built w' w.heap.size (.slice none 0 0) vn [] (autN 1 l.acc.length (reN l (aloneN l.k tape))) ∧ Below w.heap.size w w' := by
  have hk1 := hl.k0
  have hcf : ∀ (args : Array Value) (W : World), (callFunc 78 args).run Tryd.prog W = .ok (.enter 78 args) W := fun _ _ => rfl
  have HRR := Lib.hid (fun x W (hW : K3t 2 w x (.int .i64 tape) W) => rereadB l hl 1 (by omega) (by omega) (aloneN l.k tape) (fun c hc => Nat.le_of_lt (alone_fin h2 hl.k3 hat hc)) v W B (h.below (K3t.base hW) hB) (by have := K3t.size hW; omega) hn 78 #[.pointer (some ⟨w.heap.size + 1, 0, none⟩)] hcf
    (fun W' hW' c hc => aloneRule l.k tape c h2 hl.k3 hat hc (w.heap.size + 1) W' (by rw [cells_get (K3t.fn (K3t.step hW hW'))]; rfl) (by have := K3t.size (K3t.step hW hW'); omega)))
  obtain ⟨va, vn, rfl, ha, hx⟩ := h
  obtain ⟨aa, ba, oa, ca, rfl, -, -, -⟩ := ha
  obtain ⟨-, ⟨ab, bb, ob, cb, rfl, -, -, -⟩, -⟩ := hx
  obtain ⟨k, hk⟩ : ∃ k : Int, k = (relOf l).tapes := ⟨_, rfl⟩
  obtain ⟨st, hs⟩ : ∃ st : Int, st = (relOf l).start := ⟨_, rfl⟩
  obtain ⟨na, hna⟩ : ∃ na, na = (relOf l).accept.length := ⟨_, rfl⟩
  obtain ⟨nb, hnb⟩ : ∃ nb, nb = (relOf l).next.length := ⟨_, rfl⟩
  rw [← hk, ← hs, ← hna, ← hnb] at HRR
  rw [← hk, ← hs, ← hna, ← hnb]
  have HSS := Lib.hid (show ((l.start : Nat) : Int) = st from hs.symm)
  rw [HSS.out] at HRR ⊢
  have HO1 := Lib.hid (show ((1 : Nat) : Int) = 1 from rfl)
  rw [HO1.out] at HRR
  obtain ⟨RW, hRW⟩ : ∃ x, x = autN 1 l.acc.length (reN l (aloneN l.k tape)) := ⟨_, rfl⟩
  rw [← hRW] at HRR ⊢
  have HK0 := Lib.hid (show K3t 2 w #[.int .i64 k, .int .i64 st, .slice aa na ca, .slice ab nb cb] (.int .i64 tape) (((w.alloc (.cells #[.int .i64 k, .int .i64 st, .slice aa na ca, .slice ab nb cb] 27)).alloc (.cells #[.int .i64 tape] 2)).alloc (.cells #[Value.int .i64 0, .int .i64 0, .slice none 0 0, .slice none 0 0] 27)) from Below.refl _ _)
  have HR1 := Lib.hid (HRR.out _ _ HK0.out)
  have hmf : ∀ (fn : Fn) (first cap : Array Value) (w : World), (Instr.makeFunc fn first cap).run Tryd.prog w = .ok (.func fn first cap) w := fun _ _ _ _ => rfl
  have HS3 := Lib.hid (K3t.size3 2 w #[.int .i64 k, .int .i64 st, .slice aa na ca, .slice ab nb cb] (.int .i64 tape))
  clear hk hs hna hnb hRW HRR hB hn hl hcf hk1 h2 hat HSS HO1
  go_enter Tryd.func58, Tryd.ntmps58
  go_wp2_with fail
  refine HR1.out.mono ?_
  rintro e w2 ⟨va2, vn2, rfl, ⟨_, _, _, e2⟩, hbu, hb2⟩
  rw [HS3.out] at hb2 hbu
  have hk2 : K3t 2 w #[.int .i64 k, .int .i64 st, .slice aa na ca, .slice ab nb cb] (.int .i64 tape) w2 := hb2
  injection e2 with e2
  replace e2 := congrArg Array.toList e2
  simp only [List.cons.injEq, and_true] at e2
  obtain ⟨-, -, rfl, -⟩ := e2
  obtain ⟨items7, -, hnx7, -⟩ := hbu.rows
  obtain ⟨b7, m7, d7, rfl, -⟩ := hnx7.shape'
  obtain ⟨Z, hZ⟩ : ∃ Z, Z = w.heap.size + 2 := ⟨_, rfl⟩
  have HBASE := Lib.hid (K3t.base hk2)
  have hres : w2.heap[Z]? = some (.cells #[Value.int .i64 0, .int .i64 0, .slice none 0 0, .slice none 0 0] 27 (0, 0)) := by rw [hZ]; exact K3t.res hk2
  have hlS : Z < w2.heap.size := by have := K3t.size hk2; omega
  have HZW := Lib.hid (show w.heap.size ≤ Z by omega)
  have HZE := Lib.hid (show w.heap.size + 1 + 1 = Z by omega)
  have HZ3 := Lib.hid (show Z < w.heap.size + 3 by omega)
  have HBU := Lib.hid hbu
  have r0 := cells_get hres 0
  have r1 := cells_get hres 1
  have r2 := cells_get hres 2
  have r3 := cells_get hres 3
  have f0 := cells_free hres 0
  have f1 := cells_free hres 1
  have f2 := cells_free hres 2
  have f3 := cells_free hres 3
  have p0 := cells_set hres 0 (.int .i64 1)
  have p1 := cells_set p0 1 (.int .i64 st)
  have p2 := cells_set p1 2 (.slice aa na ca)
  have p3 := cells_set p2 3 (.slice b7 m7 d7)
  simp at r0 r1 r2 r3 p3
  have g0 := cells_get p3 0
  have g1 := cells_get p3 1
  have g2 := cells_get p3 2
  have g3 := cells_get p3 3
  simp at g0 g1 g2 g3
  have HG := Lib.hid (And.intro g0 (And.intro g1 (And.intro g2 g3)))
  clear p0 p1 p2 p3 g0 g1 g2 g3 hres hnx7 hbu hb2 hk2 hZ HR1 HK0 HS3
  rw [HZE.out]
  go_wp2_with fail
  obtain ⟨g0, g1, g2, g3⟩ := HG.out
  refine bodyPost_ret (v := .agg #[.int .i64 1, .int .i64 st, .slice aa na ca, .slice b7 m7 d7]) (by simp [results, Tryd.results58, go_sem, g0, g1, g2, g3]) rfl ⟨.slice aa na ca, .slice b7 m7 d7, rfl, ⟨_, _, _, rfl⟩, ?_, ?_⟩
  · exact (((((HBU.out.setLow (a := ⟨Z, 0, none⟩) HZ3.out _).setLow (a := ⟨Z, 1, none⟩) HZ3.out _).setLow (a := ⟨Z, 2, none⟩) HZ3.out _).setLow (a := ⟨Z, 3, none⟩) HZ3.out _).mono (by omega))
  · exact ((((HBASE.out.setCell (p := ⟨Z, 0, none⟩) HZW.out _).setCell (p := ⟨Z, 1, none⟩) HZW.out _).setCell (p := ⟨Z, 2, none⟩) HZW.out _).setCell (p := ⟨Z, 3, none⟩) HZW.out _)
end Go.Proofs.YtcpcbmappcndcaaDoor.AloneI
/- Plain facts: the tidy automaton is an automaton again; the automaton of pairs of states of two automata.
   Conditions: stated at each theorem. -/
namespace Go.Proofs.YtcpcbmappcndcaaDoor.PairMath
set_option linter.unusedVariables false
set_option linter.unusedSimpArgs false
open TidyMath TidyClass TidyAuto TidyRight SpecFiner SpecRight

/-- The tidy automaton. -/
def tidL (l : L) : L := ⟨l.k, 0, tidyAcc l, (tid (auM l) 0).map fun s => ((auM l).nx s).map fun t => idx (cls (auM l) (stop (auM l) + 1)) (tid (auM l) 0) t⟩
theorem tidL_rel (l : L) : relOf (tidL l) = ⟨l.k, 0, tidyAcc l, tidyNext l⟩ := by
  unfold relOf tidL tidyNext tidNext tidRow
  simp only [List.map_map]
  congr 1
  refine List.map_congr_left fun s _ => ?_
  show ofN (List.map _ _) = List.map _ _
  unfold ofN
  rw [List.map_map]
  rfl
theorem tidyAcc_pos (l : L) : 0 < (tidyAcc l).length := by
  unfold tidyAcc tidAcc
  rw [List.length_map]
  exact bfs_pos _ _ _ _
theorem auM_row {l : L} (h : l.Ok) {s : Nat} (hs : s < (auM l).n) : ((auM l).nx s).length = wide l.k := by
  have hs' : s < (F l).length + 1 := hs
  by_cases e : s < (F l).length
  · rw [auM_nx e]
    unfold rowM
    rw [List.length_map, succR_length]
  · obtain rfl : s = (F l).length := by omega
    rw [auM_dead, List.length_replicate]
theorem tidL_ok {l : L} (h : l.Ok) : (tidL l).Ok := by
  have hF := fits h
  have hlen : (tidL l).acc.length = (tid (auM l) 0).length := by unfold tidL tidyAcc tidAcc; rw [List.length_map]
  have hrow : ∀ s (hs : s < (tid (auM l) 0).length), (tidL l).nx.getD s [] = ((auM l).nx (tid (auM l) 0)[s]).map fun t => idx (cls (auM l) (stop (auM l) + 1)) (tid (auM l) 0) t := by
    intro s hs
    unfold tidL
    simp [List.getD, hs]
  have hin : ∀ s (hs : s < (tid (auM l) 0).length), (tid (auM l) 0)[s] < (auM l).n := fun s hs => met_lt hF _ _ (List.getElem_mem hs)
  refine ⟨h.k0, h.k3, tidyAcc_pos l, ?_, fun s hs => ?_, fun s hs c hc => ?_⟩
  · rw [hlen]; unfold tidL; rw [List.length_map]
  · rw [hlen] at hs
    rw [hrow s hs, List.length_map, auM_row h (hin s hs)]
    rfl
  · rw [hlen] at hs ⊢
    rw [hrow s hs]
    have hr := auM_row h (hin s hs)
    have hc' : c < ((auM l).nx (tid (auM l) 0)[s]).length := by rw [hr]; exact hc
    have e : (((auM l).nx (tid (auM l) 0)[s]).map fun t => idx (cls (auM l) (stop (auM l) + 1)) (tid (auM l) 0) t).getD c 0 = idx (cls (auM l) (stop (auM l) + 1)) (tid (auM l) 0) (((auM l).nx (tid (auM l) 0)[s])[c]) := by
      simp [List.getD, hc']
    rw [e]
    have hB := met_few hF
    have hjb := end_before _ _ _ hB (i := s) hs
    have hget : (bfs (cls (auM l) (stop (auM l) + 1)) (sucs (auM l)) 0 s)[s] = (tid (auM l) 0)[s] := (prefix_get (end_prefix _ _ _ hB _) hjb).symm
    refine bfs_found (cls (auM l) (stop (auM l) + 1)) (sucs (auM l)) 0 (i := most (auM l)) (j := s) (Nat.lt_of_lt_of_le hs (hB _)) hjb _ ?_
    rw [hget]
    exact List.mem_map_of_mem (List.getElem_mem hc')

/-- The automaton of pairs. -/
def pairL (t : Bool → Bool → Bool) (l m : L) : L :=
  ⟨l.k, l.start * m.acc.length + m.start,
   (List.range (l.acc.length * m.acc.length)).map fun x => t (l.acc.getD (x / m.acc.length) false) (m.acc.getD (x % m.acc.length) false),
   (List.range (l.acc.length * m.acc.length)).map fun x => (List.range (wide l.k)).map fun c => (l.nx.getD (x / m.acc.length) []).getD c 0 * m.acc.length + (m.nx.getD (x % m.acc.length) []).getD c 0⟩
theorem pair_lt {a b n m : Nat} (ha : a < n) (hb : b < m) : a * m + b < n * m := by
  have h1 : a * m + b < (a + 1) * m := by rw [Nat.add_mul]; omega
  exact Nat.lt_of_lt_of_le h1 (Nat.mul_le_mul_right m ha)
theorem pairL_len (t : Bool → Bool → Bool) (l m : L) : (pairL t l m).acc.length = l.acc.length * m.acc.length := by simp [pairL]
theorem pairL_ok (t : Bool → Bool → Bool) {l m : L} (hl : l.Ok) (hm : m.Ok) (hk : l.k = m.k) : (pairL t l m).Ok := by
  have hpos : 0 < m.acc.length := Nat.lt_of_le_of_lt (Nat.zero_le _) hm.st
  refine ⟨hl.k0, hl.k3, ?_, ?_, fun x hx => ?_, fun x hx c hc => ?_⟩
  · rw [pairL_len]; exact pair_lt hl.st hm.st
  · rw [pairL_len]; simp [pairL]
  · rw [pairL_len] at hx
    simp [pairL, List.getD, hx]
  · rw [pairL_len] at hx ⊢
    have hc' : c < wide l.k := hc
    have e : ((pairL t l m).nx.getD x []).getD c 0 = (l.nx.getD (x / m.acc.length) []).getD c 0 * m.acc.length + (m.nx.getD (x % m.acc.length) []).getD c 0 := by
      simp [pairL, List.getD, hx, hc']
    rw [e]
    exact pair_lt (hl.lt _ (Nat.div_lt_of_lt_mul (by rw [Nat.mul_comm]; exact hx)) c hc') (hm.lt _ (Nat.mod_lt _ hpos) c (by rw [← hk]; exact hc'))
theorem pair_div {p q n : Nat} (hq : q < n) : (p * n + q) / n = p := by
  rw [Nat.mul_comm, Nat.mul_add_div (by omega), Nat.div_eq_of_lt hq, Nat.add_zero]
theorem pair_mod {p q n : Nat} (hq : q < n) : (p * n + q) % n = q := by
  rw [Nat.mul_comm, Nat.mul_add_mod, Nat.mod_eq_of_lt hq]
/-- A row of the automaton of pairs. -/
def rowPQ (l m : L) (p q : Nat) : List Int := (List.range (wide l.k)).map fun c => (((l.nx.getD p []).getD c 0 * m.acc.length + (m.nx.getD q []).getD c 0 : Nat) : Int)
theorem rel_next_len (t : Bool → Bool → Bool) (l m : L) : (relOf (pairL t l m)).next.length = l.acc.length * m.acc.length := by simp [pairL, relOf]
theorem acc_next (t : Bool → Bool → Bool) (l m : L) {p q : Nat} (hp : p < l.acc.length) (hq : q < m.acc.length) :
    (pairL t l m).acc.take (p * m.acc.length + q + 1) = (pairL t l m).acc.take (p * m.acc.length + q) ++ [t (l.acc.getD p false) (m.acc.getD q false)] := by
  have hx := pair_lt hp hq
  rw [List.take_succ_eq_append_getElem (by rw [pairL_len]; exact hx)]
  congr 2
  simp only [pairL, List.getElem_map, List.getElem_range]
  rw [pair_div hq, pair_mod hq]
theorem next_next (t : Bool → Bool → Bool) (l m : L) {p q : Nat} (hp : p < l.acc.length) (hq : q < m.acc.length) :
    (relOf (pairL t l m)).next.take (p * m.acc.length + q + 1) = (relOf (pairL t l m)).next.take (p * m.acc.length + q) ++ [rowPQ l m p q] := by
  have hx := pair_lt hp hq
  rw [List.take_succ_eq_append_getElem (by rw [rel_next_len]; exact hx)]
  congr 2
  simp only [relOf, pairL, List.getElem_map, List.getElem_range]
  rw [pair_div hq, pair_mod hq]
  unfold ofN rowPQ
  rw [List.map_map]
  rfl
theorem mul_le_pair {a b n m : Nat} (ha : a < n) (hb : b < m) (h : n * m ≤ 1000) : a * m ≤ 1000 ∧ a * m + b ≤ 1000 := by
  have := pair_lt ha hb
  omega
theorem sides {n m : Nat} (hn : 0 < n) (hm : 0 < m) (h : n * m ≤ 1000) : n ≤ 1000 ∧ m ≤ 1000 :=
  ⟨Nat.le_trans (Nat.le_mul_of_pos_right n hm) h, Nat.le_trans (Nat.le_mul_of_pos_left m hn) h⟩
end Go.Proofs.YtcpcbmappcndcaaDoor.PairMath
