
/- What the program's fixed hands back: the tidy relation with a word on one tape, or an error.
   Conditions: stated at each theorem. -/
import Derived.Test.YtcpcbmappcndcaaDoorFX22
import Derived.Test.YtcpcbmappcndcaaDoorFX23
import Derived.Test.YtcpcbmappcndcaaDoorFX20
import Derived.Deep.RegionHeld3
import Derived.Test.YtcpcbmappcndcaaDoorFX5
import Derived.Test.YtcpcbmappcndcaaDoorFX4
namespace Go.Proofs.YtcpcbmappcndcaaDoor.FixedI
set_option linter.unusedVariables false
set_option linter.unusedSimpArgs false
set_option linter.ambiguousOpen false
set_option maxRecDepth 100000
open Go.RowKit Go.Maps Mem Copy Rel Valid Heap Bld Columns ColMath SpecFiner Numbers TidyMath TidyAuto TidyRight SpecRight ImplRight ImplTidied ErrCode Automaton PairMath TapeMath WithMath Reread RereadI WordMath Digs FixRule TakesI AloneI StepI

def fixB (l : L) (tape : Nat) (u : ByteArray) : Bool := decide ((tidyAcc l).length * (u.size + 1) ≤ 1000) && fewB (fixL (tidL l) tape (digs u)) 150
def fixK (l : L) (tape : Nat) (u : ByteArray) : Int := if fixB l tape u = true then ((l.k - 1 : Nat) : Int) else 0
def fixA (l : L) (tape : Nat) (u : ByteArray) : List Bool := if fixB l tape u = true then tidyAcc (fixL (tidL l) tape (digs u)) else []
def fixN (l : L) (tape : Nat) (u : ByteArray) : List (List Int) := if fixB l tape u = true then tidyNext (fixL (tidL l) tape (digs u)) else []
theorem fix_no {l : L} {tape : Nat} {u : ByteArray} (h : fixB l tape u = false) : fixK l tape u = 0 ∧ fixA l tape u = [] ∧ fixN l tape u = [] := by
  unfold fixK fixA fixN; rw [h]; exact ⟨rfl, rfl, rfl⟩
theorem fix_few {l : L} {tape : Nat} {u : ByteArray} (h : (tidyAcc l).length * (u.size + 1) ≤ 1000) : fixB l tape u = fewB (fixL (tidL l) tape (digs u)) 150 ∧ fixK l tape u = fewK (fixL (tidL l) tape (digs u)) 150 ∧ fixA l tape u = fewA (fixL (tidL l) tape (digs u)) 150 ∧ fixN l tape u = fewN (fixL (tidL l) tape (digs u)) 150 := by
  have hb : fixB l tape u = fewB (fixL (tidL l) tape (digs u)) 150 := by unfold fixB; rw [decide_eq_true h, Bool.true_and]
  have hk : (fixL (tidL l) tape (digs u)).k = l.k - 1 := rfl
  refine ⟨hb, ?_, ?_, ?_⟩
  · unfold fixK fewK; rw [hb, hk]
  · unfold fixA fewA; rw [hb]
  · unfold fixN fewN; rw [hb]
theorem fix_many {l : L} {tape : Nat} {u : ByteArray} (h : ¬ (tidyAcc l).length * (u.size + 1) ≤ 1000) : fixB l tape u = false := by
  unfold fixB; rw [decide_eq_false h, Bool.false_and]
theorem tidyNext_len (l : L) : (tidyNext l).length = (tidyAcc l).length := by
  unfold tidyNext tidyAcc tidNext tidAcc
  rw [List.length_map, List.length_map]

/-- Four boxes: the relation, the tape, the word, the result. -/
def W4 (w : World) (c : Array Value) (tape : Nat) (u : ByteArray) : World := (((w.alloc (.cells c 27)).alloc (.cells #[.int .i64 tape] 2)).alloc (.cells #[.string u] 9)).alloc (.cells #[Value.int .i64 0, .int .i64 0, .slice none 0 0, .slice none 0 0] 27)
def K4 (w : World) (c : Array Value) (tape : Nat) (u : ByteArray) (W : World) : Prop := Below (w.heap.size + 1 + 1 + 1 + 1) (W4 w c tape u) W
section
variable {w W W' : World} {c : Array Value} {tape : Nat} {u : ByteArray}
theorem K4.size4 (w : World) (c : Array Value) (tape : Nat) (u : ByteArray) : (W4 w c tape u).heap.size = w.heap.size + 1 + 1 + 1 + 1 := by unfold W4; rw [size_alloc', size_alloc', size_alloc', size_alloc']
theorem K4.size (h : K4 w c tape u W) : w.heap.size + 1 + 1 + 1 + 1 ≤ W.heap.size := by have := Below.size h; rwa [K4.size4] at this
theorem K4.base (h : K4 w c tape u W) : Below w.heap.size w W := (base_box (base_box (base_box (base_box (Below.refl _ w) _) _) _) _).trans (Below.mono h (by omega))
theorem K4.step (h : K4 w c tape u W) (hb : Below W.heap.size W W') : K4 w c tape u W' := Below.trans h (hb.mono (K4.size h))
theorem K4.alloc (h : K4 w c tape u W) (o : Obj) : K4 w c tape u (W.alloc o) := h.step ((Below.refl _ _).alloc (Nat.le_refl _) _)
theorem K4.new (w : World) (c : Array Value) (tape : Nat) (u : ByteArray) : K4 w c tape u (W4 w c tape u) := Below.refl _ _
theorem K4.box (h : K4 w c tape u W) : W.heap[w.heap.size]? = some (.cells c 27 (0, 0)) ∧ W.heap[w.heap.size + 1]? = some (.cells #[.int .i64 tape] 2 (0, 0)) ∧ W.heap[w.heap.size + 1 + 1]? = some (.cells #[.string u] 9 (0, 0)) ∧ W.heap[w.heap.size + 1 + 1 + 1]? = some (.cells #[Value.int .i64 0, .int .i64 0, .slice none 0 0, .slice none 0 0] 27 (0, 0)) := by
  have s1 := size_alloc' w (.cells c 27)
  have s2 := size_alloc' (w.alloc (.cells c 27)) (.cells #[.int .i64 tape] 2)
  have s3 := size_alloc' ((w.alloc (.cells c 27)).alloc (.cells #[.int .i64 tape] 2)) (.cells #[.string u] 9)
  rw [s1] at s2
  rw [s2] at s3
  refine ⟨?_, ?_, ?_, ?_⟩
  · rw [Below.block h _ (by omega)]; unfold W4
    rw [Below.heap_alloc _ _ _ (by omega), Below.heap_alloc _ _ _ (by omega), Below.heap_alloc _ _ _ (by omega)]; exact heap_alloc_new _ _
  · rw [Below.block h _ (by omega)]; unfold W4
    rw [Below.heap_alloc _ _ _ (by omega), Below.heap_alloc _ _ _ (by omega)]
    have := heap_alloc_new (w.alloc (.cells c 27)) (.cells #[.int .i64 tape] 2)
    rwa [s1] at this
  · rw [Below.block h _ (by omega)]; unfold W4
    rw [Below.heap_alloc _ _ _ (by omega)]
    have := heap_alloc_new ((w.alloc (.cells c 27)).alloc (.cells #[.int .i64 tape] 2)) (.cells #[.string u] 9)
    rwa [s2] at this
  · rw [Below.block h _ (by omega)]; unfold W4
    have := heap_alloc_new (((w.alloc (.cells c 27)).alloc (.cells #[.int .i64 tape] 2)).alloc (.cells #[.string u] 9)) (.cells #[Value.int .i64 0, .int .i64 0, .slice none 0 0, .slice none 0 0] 27)
    rwa [s3] at this
end
theorem run_slice_from {P : Program} (w : World) (t : TypeId) (s : ByteArray) (i : Nat) (h : P.underlying t = some .string) (hi : i ≤ s.size) :
    (Instr.slice t (.string s) (some (.int .i64 (i : Int))) none none).run P w = .ok (.string (s.extract i s.size)) w := by
  have hi' : 0 ≤ (i : Int) ∧ (i : Int) ≤ ((s.size : Nat) : Int) := ⟨by omega, by omega⟩
  simp [Instr.slice, Instr.sliceBounds, Instr.sliceBound, asIntOf, run_underlying h, hi']
  try (intro hc; omega)
theorem built_introws {w : World} {B : Nat} {va vn : Value} {A : List Bool} {N : List (List Int)} (h : Built w B va vn A N) (C : Nat) (hC : w.heap.size ≤ C) : IntRows w C vn N := by
  obtain ⟨va', vn', e, -, hr⟩ := h.reads C hC 0 0
  simp at e
  obtain ⟨-, rfl⟩ := e
  exact hr
theorem bv_map (n : Nat) (f : Nat → Bool) : (List.range n).map (fun i => Value.bool (f i)) = ((List.range n).map f).map Value.bool := by rw [List.map_map]; rfl
def bv (n : Nat) (f : Nat → Bool) : List Value := (List.range n).map fun i => Value.bool (f i)
theorem bv_len (n : Nat) (f : Nat → Bool) : (bv n f).length = n := by simp [bv]
theorem bv_snoc (n : Nat) (f : Nat → Bool) : bv n f ++ [.bool (f n)] = bv (n + 1) f := by unfold bv; rw [List.range_succ, List.map_append]; rfl

set_option maxHeartbeats 16000000 in
theorem fixedI (l : L) (hl : l.Ok) (h2 : 2 ≤ l.k) (tape : Nat) (ht : tape < l.k) (u : ByteArray) (hu : wordB u = true) (hnl : l.acc.length ≤ 1000) (v : Value) (w : World) (B : Nat) (h : RelAt w B v (relOf l)) (hB : B ≤ w.heap.size) :
    Calls Tryd.prog 33 #[v, .int .i64 tape, .string u] w fun e w' => ∃ va vn, ∃ n : Int, e = .returned (.tuple #[.agg #[.int .i64 (fixK l tape u), .int .i64 0, va, vn], errV (fixB l tape u) n]) ∧ Built w' w.heap.size va vn (fixA l tape u) (fixN l tape u) ∧ Below w.heap.size w w' := by
  have hm40 := word_len hu
  have hTok := tidL_ok hl
  have hk3 := hl.k3
  have HT1 := Lib.hid (fun W (hb : Below w.heap.size w W) (hs : w.heap.size ≤ W.heap.size) => tidyToI l hl v W B (h.below hb hB) (Nat.le_trans hB hs) (by omega) 1000 (by omega))
  have hKl := fun hq : fewB l 1000 = true => show fewK l 1000 = (l.k : Int) ∧ fewA l 1000 = tidyAcc l ∧ fewN l 1000 = tidyNext l ∧ (tidyAcc l).length ≤ 1000 from by unfold fewK fewA fewN; rw [hq]; exact ⟨rfl, rfl, rfl, of_decide_eq_true hq⟩
  have HE1 := Lib.hid (show fewB l 1000 = false → fewK l 1000 = 0 ∧ fewA l 1000 = [] ∧ fewN l 1000 = [] ∧ fixB l tape u = false from fun h => by
    refine ⟨by unfold fewK; rw [h]; rfl, by unfold fewA; rw [h]; rfl, by unfold fewN; rw [h]; rfl, fix_many ?_⟩
    have h1 : ¬ (tidyAcc l).length ≤ 1000 := of_decide_eq_false h
    have h3 : (tidyAcc l).length ≤ (tidyAcc l).length * (u.size + 1) := Nat.le_mul_of_pos_right _ (Nat.succ_pos _)
    omega)
  have HN0 := Lib.hid (fun hb => fix_no (l := l) (tape := tape) (u := u) hb)
  have HFM := Lib.hid (fun (hq : fewB l 1000 = true) (hle : ¬ (fewN l 1000).length * (u.size + 1) ≤ 1000) => (show fixB l tape u = false from fix_many (by rw [(hKl hq).2.2.1, tidyNext_len] at hle; exact hle)))
  have HLN := Lib.hid (fun hq : fewB l 1000 = true => (show (fewN l 1000).length ≤ 1000 ∧ (fewA l 1000).length = (fewN l 1000).length ∧ 0 < (fewN l 1000).length from by rw [(hKl hq).2.2.1, (hKl hq).2.1, tidyNext_len]; exact ⟨(hKl hq).2.2.2, rfl, tidyAcc_pos l⟩))
  have hrel := fun hq : fewB l 1000 = true => show relOf (tidL l) = ⟨fewK l 1000, 0, fewA l 1000, fewN l 1000⟩ from by rw [tidL_rel, ← (hKl hq).1, ← (hKl hq).2.1, ← (hKl hq).2.2.1]
  have HAL := Lib.hid (fun (hq : fewB l 1000 = true) W C v' (h1 : RelAt W C v' ⟨fewK l 1000, 0, fewA l 1000, fewN l 1000⟩) (hC : C ≤ W.heap.size) => aloneI (tidL l) hTok h2 tape ht v' W C (by rw [hrel hq]; exact h1) hC (by have := (hKl hq).2.2.2; show (tidyAcc l).length ≤ _; omega))
  have HRO := Lib.hid (fun (hq : fewB l 1000 = true) W C va' x' y z vn W' C' (h1 : RelAt W C (.agg #[x', y, va', z]) ⟨fewK l 1000, 0, fewA l 1000, fewN l 1000⟩) (hC : C ≤ W.heap.size) (hb : Below W.heap.size W W') (hbu : Built W' C' (.slice none 0 0) vn [] (autN 1 (tidL l).acc.length (reN (tidL l) (aloneN (tidL l).k tape)))) => show RelAt W' W'.heap.size (.agg #[.int .i64 1, .int .i64 0, va', vn]) (relOf (aloneL (tidL l) tape)) from by
    have h2 : RelAt W C (.agg #[x', y, va', z]) (relOf (tidL l)) := by rw [hrel hq]; exact h1
    exact rel_of (k2 := 1) (φ := aloneN (tidL l).k tape) (acc_of h2 rfl) hC hb hbu)
  have HTK := Lib.hid (fun (p : Nat) (hp : p < (tidyAcc l).length) (i : Nat) W C v' (h1 : RelAt W C v' (relOf (aloneL (tidL l) tape))) (hC : C ≤ W.heap.size) => (show Calls Tryd.prog 59 #[v', .int .i64 p, .string (u.extract i u.size)] W fun e w' => e = .returned (.bool (restB (tidL l) tape p ((digs u).drop i))) ∧ Below W.heap.size W w' from by
    have h2' := takesI (aloneL (tidL l) tape) (aloneL_ok hTok h2 ht) rfl p hp (u.extract i u.size) (word_drop hu i) v' W C h1 hC
    rw [digs_drop, rest_alone hTok h2 ht (fun d hd => digs_lt u d (List.mem_of_mem_drop hd)) hp] at h2'
    exact h2'))
  obtain ⟨Kf, hKf⟩ := keys_are
  have HNU := Lib.hid (fun W => numbers Kf hKf l.k hl.k0 hk3 W)
  have HFR := Lib.hid (fun (hq : fewB l 1000 = true) (hle : (fewN l 1000).length * (u.size + 1) ≤ 1000) (s c : Nat) (hs : s < (fewN l 1000).length * (u.size + 1)) (hc : c < wide (l.k - 1)) (b2 b3 b4 b5 b6 mb : Nat) (vn : Value) (W : World) (C : Nat) (hC : C ≤ W.heap.size) (hm2 : b2 < C) (hm3 : b3 < C) (hm4 : b4 < C) (hm5 : b5 < C) (hm6 : b6 < C) (hmb : mb < C) h2c h3c h4c h5c h6c hown (hn : IntRows W C vn (fewN l 1000)) => fixRule (tidL l) hTok h2 tape ht u hu (by
      rw [(hKl hq).2.2.1, tidyNext_len] at hle; exact hle) s c (by rw [(hKl hq).2.2.1, tidyNext_len] at hs; exact hs) hc hKf b2 b3 b4 b5 b6 mb vn W C hC hm2 hm3 hm4 hm5 hm6 hmb h2c h3c h4c h5c h6c hown (by
      have e := congrArg (fun r => r.next) (tidL_rel l)
      rw [(hKl hq).2.2.1] at hn
      have e2 : (tidL l).nx.map ofN = tidyNext l := e
      rw [e2]; exact hn))
  have HAU := Lib.hid (fun va acc W C (hacc : Bools W C va acc) (hC : C ≤ W.heap.size) (hn : acc.length ≤ 100000) caps nx hcc => automaton (l.k - 1) (by omega) (by omega) va acc W C hacc hC hn 63 (fun _ _ => rfl) caps nx hcc)
  have HST := Lib.hid (fun (hq : fewB l 1000 = true) (hle : (fewN l 1000).length * (u.size + 1) ≤ 1000) W C v' (h1 : RelAt W C v' (relOf (fixL (tidL l) tape (digs u)))) (hC : C ≤ W.heap.size) => (show Calls Tryd.prog 61 #[v'] W fun e w' => ∃ va vn, e = .returned (.tuple #[.agg #[.int .i64 (fixK l tape u), .int .i64 0, va, vn], errV (fixB l tape u) 150]) ∧ Built w' W.heap.size va vn (fixA l tape u) (fixN l tape u) ∧ Below W.heap.size W w' from by
    rw [(hKl hq).2.2.1, tidyNext_len] at hle
    have h3 := tidyStepI (fixL (tidL l) tape (digs u)) (fixL_ok hTok h2 ht (digs_lt u)) v' W C h1 hC (by rw [fixL_len, digs_len]; show (tidyAcc l).length * _ ≤ _; omega)
    obtain ⟨e1, e2, e3, e4⟩ := fix_few (tape := tape) hle
    rw [← e1, ← e2, ← e3, ← e4] at h3
    exact h3))
  have HFL := Lib.hid (fun hq : fewB l 1000 = true => (show relOf (fixL (tidL l) tape (digs u)) = ⟨((l.k - 1 : Nat) : Int), 0, (List.range ((fewN l 1000).length * (u.size + 1))).map (fun x => restB (tidL l) tape (x / (u.size + 1)) ((digs u).drop (x % (u.size + 1)))), autN (l.k - 1) ((fewN l 1000).length * (u.size + 1)) (fun s c => ((fixR (tidL l) tape (digs u) (s / (u.size + 1)) (s % (u.size + 1)) c : Nat) : Int))⟩ from by
    have e1 : (fewN l 1000).length = (tidL l).acc.length := by rw [(hKl hq).2.2.1, tidyNext_len]; rfl
    rw [e1]
    unfold relOf fixL autN
    rw [digs_len]
    simp only [List.map_map]
    congr 1
    · show ((0 * (u.size + 1) : Nat) : Int) = 0
      rw [Nat.zero_mul]; rfl
    · refine List.map_congr_left fun s _ => ?_
      show ofN ((List.range _).map _) = (List.range _).map _
      unfold ofN
      rw [List.map_map]; rfl))
  have HKE := Lib.hid (fun hq : fewB l 1000 = true => (show fewK l 1000 = (l.k : Int) from (hKl hq).1))
  have HLE := Lib.hid (fun hq : fewB l 1000 = true => (show (tidyAcc l).length = (fewN l 1000).length from by rw [(hKl hq).2.2.1, tidyNext_len]))
  obtain ⟨T, hTT⟩ : ∃ x, x = tidL l := ⟨_, rfl⟩
  have HTT := Lib.hid (show (tidL l).acc.length = (tidyAcc l).length ∧ ((tidL l).start : Int) = 0 ∧ (tidL l).k = l.k from ⟨rfl, rfl, rfl⟩)
  obtain ⟨K1, hK1⟩ : ∃ x, x = fewK l 1000 := ⟨_, rfl⟩
  obtain ⟨A1, hA1⟩ : ∃ x, x = fewA l 1000 := ⟨_, rfl⟩
  obtain ⟨N1, hN1⟩ : ∃ x, x = fewN l 1000 := ⟨_, rfl⟩
  obtain ⟨Q1, hQ1⟩ : ∃ x, x = fewB l 1000 := ⟨_, rfl⟩
  obtain ⟨K, hK⟩ : ∃ x, x = fixK l tape u := ⟨_, rfl⟩
  obtain ⟨A, hA⟩ : ∃ x, x = fixA l tape u := ⟨_, rfl⟩
  obtain ⟨N, hN⟩ : ∃ x, x = fixN l tape u := ⟨_, rfl⟩
  obtain ⟨Q, hQ⟩ : ∃ x, x = fixB l tape u := ⟨_, rfl⟩
  rw [← hK1, ← hA1, ← hN1, ← hQ1] at HT1 HAL HRO
  rw [← hK1, ← hA1, ← hN1, ← hQ1, ← hQ] at HE1
  rw [← hK, ← hA, ← hN, ← hQ] at HN0
  rw [← hN1, ← hQ1, ← hQ] at HFM
  rw [← hQ1, ← hN1, ← hA1] at HLN
  rw [← hQ1, ← hN1] at HFR HST HFL HLE
  rw [← hQ1, ← hK1] at HKE
  rw [← hK, ← hA, ← hN, ← hQ] at HST
  rw [← hK, ← hA, ← hN, ← hQ]
  rw [← hTT] at HAL HRO HTK HFR HST HFL HTT
  clear hKl hrel hTT hK1 hA1 hN1 hQ1 hK hA hN hQ
  obtain ⟨m, hm⟩ : ∃ m, m = u.size := ⟨_, rfl⟩
  rw [← hm] at HFM HTK HFR HST HFL hm40
  have HM := Lib.hid hm
  obtain ⟨gg, hgg⟩ : ∃ f : Nat → Bool, f = fun x => restB T tape (x / (m + 1)) ((digs u).drop (x % (m + 1))) := ⟨_, rfl⟩
  have HGG := Lib.hid (fun (p i : Nat) (hi : i < m + 1) => (show gg (p * (m + 1) + i) = restB T tape p ((digs u).drop i) from by
    rw [hgg]
    show restB T tape ((p * (m + 1) + i) / (m + 1)) ((digs u).drop ((p * (m + 1) + i) % (m + 1))) = _
    rw [pair_div hi, pair_mod hi]))
  rw [← hgg] at HFL
  obtain ⟨nx, hnx⟩ : ∃ f : Nat → Nat → Int, f = fun s c => ((fixR T tape (digs u) (s / (m + 1)) (s % (m + 1)) c : Nat) : Int) := ⟨_, rfl⟩
  rw [← hnx] at HFL
  have HNX := Lib.hid (fun s c => (show ((fixR T tape (digs u) (s / (m + 1)) (s % (m + 1)) c : Nat) : Int) = nx s c from by rw [hnx]))
  clear hgg hnx
  obtain ⟨FL, hFLe⟩ : ∃ x, x = relOf (fixL T tape (digs u)) := ⟨_, rfl⟩
  rw [← hFLe] at HFL HST
  clear hFLe
  obtain ⟨r, hr⟩ : ∃ r, r = relOf l := ⟨_, rfl⟩
  rw [← hr] at h
  clear hr
  obtain ⟨va, vn, rfl, ha, hn⟩ := h
  obtain ⟨aa1, ba, oa, ca1, rfl, -, -, -⟩ := ha
  obtain ⟨-, ⟨ab1, bb, ob, cb1, rfl, -, -, -⟩, -⟩ := hn
  obtain ⟨k1, hk⟩ : ∃ x, x = r.tapes := ⟨_, rfl⟩
  obtain ⟨st1, hst⟩ : ∃ x, x = r.start := ⟨_, rfl⟩
  obtain ⟨na1, hna⟩ : ∃ x, x = r.accept.length := ⟨_, rfl⟩
  obtain ⟨nb1, hnb⟩ : ∃ x, x = r.next.length := ⟨_, rfl⟩
  rw [← hk, ← hst, ← hna, ← hnb] at HT1
  rw [← hk, ← hst, ← hna, ← hnb]
  clear hk hst hna hnb
  obtain ⟨c, hc⟩ : ∃ c : Array Value, c = #[.int .i64 k1, .int .i64 st1, .slice aa1 na1 ca1, .slice ab1 nb1 cb1] := ⟨_, rfl⟩
  have HC1 := Lib.hid (HT1.out (W4 w c tape u) (K4.base (K4.new w c tape u)) (K4.base (K4.new w c tape u)).size)
  have HS4 := Lib.hid (K4.size4 w c tape u)
  have HCE := Lib.hid hc
  clear HT1 hB
  unfold W4 at HC1 HS4
  rw [hc] at HC1 HS4
  clear hc
  go_enter Tryd.func33, Tryd.ntmps33
  go_wp2_with fail
  refine HC1.out.mono ?_
  rintro e w3 ⟨va, vn, rfl, hbu, hb3⟩
  rw [HS4.out] at hb3 hbu
  have HK3 := Lib.hid (show K4 w c tape u w3 from by unfold K4 W4; rw [HCE.out]; exact hb3)
  have HBU := Lib.hid hbu
  obtain ⟨a3, n3, c3, rfl, -⟩ := hbu.acc.shape'
  obtain ⟨items0, -, hnx0, hi0⟩ := hbu.rows
  obtain ⟨b3, m3, d3, rfl, hm3⟩ := hnx0.shape'
  have HM3 := Lib.hid (show m3 = N1.length from by
    have h1 := congrArg List.length hi0
    rw [hm3.out, List.length_map]
    rw [List.length_map, List.length_map] at h1
    exact h1)
  clear hi0 hm3 hb3 hbu hnx0 HC1 HS4
  cases Q1 with
  | false =>
    rw [show errV false ((1000 : Nat) : Int) = Value.iface 74 (.int .i64 1000) from rfl]
    obtain ⟨rfl, rfl, rfl, rfl⟩ := HE1.out rfl
    obtain ⟨rfl, rfl, rfl⟩ := HN0.out rfl
    have hres := (K4.box HK3.out).2.2.2
    have r0 := cells_get hres 0
    have r1 := cells_get hres 1
    have r2 := cells_get hres 2
    have r3 := cells_get hres 3
    have f0 := cells_free hres 0
    have f1 := cells_free hres 1
    have f2 := cells_free hres 2
    have f3 := cells_free hres 3
    have hlS := lt_of_block hres
    have p0 := cells_set hres 0 (.int .i64 0)
    have p1 := cells_set p0 1 (.int .i64 0)
    have p2 := cells_set p1 2 (Value.slice none 0 0)
    have p3 := cells_set p2 3 (Value.slice none 0 0)
    simp at r0 r1 r2 r3 p3
    have p4 := (Below.heap_alloc _ (.cells #[.int .i64 0, .int .i64 0, .slice a3 n3 c3, .slice b3 m3 d3] 27) _ (lt_of_block p3)).trans p3
    have g0 := cells_get p4 0
    have g1 := cells_get p4 1
    have g2 := cells_get p4 2
    have g3 := cells_get p4 3
    simp at g0 g1 g2 g3
    have HG := Lib.hid (And.intro g0 (And.intro g1 (And.intro g2 g3)))
    clear p0 p1 p2 p3 p4 g0 g1 g2 g3 hres
    clear HAL HRO HTK HFR HST HFL HNU HAU HN0 HE1 HFM
    go_wp2_with fail
    obtain ⟨g0, g1, g2, g3⟩ := HG.out
    refine bodyPost_ret (v := .tuple #[.agg #[.int .i64 0, .int .i64 0, .slice none 0 0, .slice none 0 0], .iface 74 (.int .i64 1000)]) (by simp [results, Tryd.results33, go_sem, g0, g1, g2, g3]) rfl ⟨.slice none 0 0, .slice none 0 0, 1000, rfl, ImplTidied.built_none _ _, ?_⟩
    have HBW := K4.base HK3.out
    have hle3 : w.heap.size ≤ w.heap.size + 1 + 1 + 1 := by omega
    exact ((((HBW.setCell (p := ⟨w.heap.size + 1 + 1 + 1, 0, none⟩) hle3 _).setCell (p := ⟨w.heap.size + 1 + 1 + 1, 1, none⟩) hle3 _).setCell (p := ⟨w.heap.size + 1 + 1 + 1, 2, none⟩) hle3 _).setCell (p := ⟨w.heap.size + 1 + 1 + 1, 3, none⟩) hle3 _).alloc (by simp [World.setCell]; have := HBW.size; omega) _
  | true =>
    rw [show errV true ((1000 : Nat) : Int) = Value.nilIface from rfl]
    obtain rfl := HKE.out rfl
    obtain ⟨hn1, hn2, hn3⟩ := HLN.out rfl
    have HLNN := Lib.hid hn2
    have hm3e := HM3.out
    rw [← hm3e] at hn1 hn3
    obtain ⟨x0, x1, x2, -⟩ := K4.box HK3.out
    have y1 := cells_get x1 0
    have y2 := cells_get x2 0
    simp at y1 y2
    have l1 := lt_of_block x1
    have l2 := lt_of_block x2
    obtain ⟨P, hP⟩ : ∃ P, P = m3 * (m + 1) := ⟨_, rfl⟩
    have hPm : P ≤ 1000000 := by rw [hP]; exact Nat.le_trans (Nat.mul_le_mul hn1 (Nat.succ_le_succ hm40)) (by decide)
    have hmul : (m3 : Int) * ((m : Int) + 1) = (P : Int) := by rw [hP]; push_cast; rfl
    have hwP : IntKind.i64.wrap (P : Int) = (P : Int) := (FixRule.wrap_small P hPm).1
    have hw1 : IntKind.i64.wrap ((m : Int) + 1) = (m : Int) + 1 := (FixRule.wrap_small (m + 1) (by omega)).1
    have hsz : (u.size : Int) = (m : Int) := by rw [HM.out]
    have HP := Lib.hid hP
    clear hP x0 x1 x2 hm3e
    by_cases hle : P ≤ 1000
    · have hle2 : N1.length * (m + 1) ≤ 1000 := by rw [← HM3.out, ← HP.out]; exact hle
      obtain ⟨W5, hW5⟩ : ∃ W5, W5 = (w3.alloc (.cells #[.int .i64 (l.k : Nat), .int .i64 0, .slice a3 n3 c3, .slice b3 m3 d3] 27)).alloc (.cells #[.int .i64 m] 2) := ⟨_, rfl⟩
      have hs5 : W5.heap.size = w3.heap.size + 1 + 1 := by rw [hW5, size_alloc', size_alloc']
      have hb35 : Below w3.heap.size w3 W5 := by rw [hW5]; exact ((Below.refl _ _).alloc (Nat.le_refl _) _).alloc (by rw [size_alloc']; omega) _
      have HX8 := Lib.hid (show W5.heap[w3.heap.size]? = some (.cells #[.int .i64 (l.k : Nat), .int .i64 0, .slice a3 n3 c3, .slice b3 m3 d3] 27 (0, 0)) ∧ W5.heap[w3.heap.size + 1]? = some (.cells #[.int .i64 m] 2 (0, 0)) from by
        rw [hW5]
        refine ⟨by rw [Below.heap_alloc _ _ _ (by rw [size_alloc']; omega)]; exact heap_alloc_new _ _, ?_⟩
        have := heap_alloc_new (w3.alloc (.cells #[.int .i64 (l.k : Nat), .int .i64 0, .slice a3 n3 c3, .slice b3 m3 d3] 27)) (.cells #[.int .i64 m] 2)
        rwa [size_alloc'] at this)
      have HRD := Lib.hid (fun W (hb : Below w3.heap.size w3 W) => (HBU.out.below hb).reads W.heap.size (Nat.le_refl _) ((l.k : Nat) : Int) 0)
      have HC6 := Lib.hid (HAL.out (by trivial) W5 _ _ (HRD.out W5 hb35) (Nat.le_refl _))
      have HB35 := Lib.hid hb35
      have HS5 := Lib.hid hs5
      rw [hW5] at HC6
      have HW5 := Lib.hid hW5
      have l1' : w.heap.size + 1 < w3.heap.size + 1 := by omega
      clear hW5 hb35 hs5 HAL
      go_wp2_with fail
      refine HC6.out.mono ?_
      rintro e w6 ⟨va6, vn6, rfl, ⟨_, _, _, e6⟩, hbu6, hb6⟩
      rw [← HW5.out] at hbu6 hb6
      injection e6 with e6
      replace e6 := congrArg Array.toList e6
      simp only [List.cons.injEq, and_true] at e6
      obtain ⟨-, -, rfl, -⟩ := e6
      obtain ⟨items6, -, hnx6, -⟩ := hbu6.rows
      obtain ⟨b6, m6, d6, rfl, -⟩ := hnx6.shape'
      rw [HTT.out.2.1]
      obtain ⟨W7, hW7⟩ : ∃ W7, W7 = w6.alloc (.cells #[.int .i64 1, .int .i64 0, .slice a3 n3 c3, .slice b6 m6 d6] 27) := ⟨_, rfl⟩
      have hb67 : Below w6.heap.size w6 W7 := by rw [hW7]; exact (Below.refl _ _).alloc (Nat.le_refl _) _
      have hra := HRO.out (by trivial) W5 W5.heap.size (.slice a3 n3 c3) _ _ _ (.slice b6 m6 d6) w6 _ (HRD.out W5 HB35.out) (Nat.le_refl _) hb6 hbu6
      have HF7 := Lib.hid (fun W (hb : Below W7.heap.size W7 W) => (show W.heap[w3.heap.size]? = some (.cells #[.int .i64 (l.k : Nat), .int .i64 0, .slice a3 n3 c3, .slice b3 m3 d3] 27 (0, 0)) ∧ W.heap[w3.heap.size + 1]? = some (.cells #[.int .i64 m] 2 (0, 0)) ∧ W.heap[w6.heap.size]? = some (.cells #[.int .i64 1, .int .i64 0, .slice a3 n3 c3, .slice b6 m6 d6] 27 (0, 0)) ∧ K4 w c tape u W ∧ RelAt W W.heap.size (.agg #[.int .i64 1, .int .i64 0, .slice a3 n3 c3, .slice b6 m6 d6]) (relOf (aloneL T tape)) ∧ Built W (w.heap.size + 1 + 1 + 1 + 1) (.slice a3 n3 c3) (.slice b3 m3 d3) A1 N1 ∧ W7.heap.size ≤ W.heap.size from by
        have hs5 := HS5.out
        have hs6 := hb6.size
        have hs7 : W7.heap.size = w6.heap.size + 1 := by rw [hW7, size_alloc']
        have h6W : Below w6.heap.size w6 W := hb67.trans (hb.mono (by omega))
        have h5W : Below W5.heap.size W5 W := hb6.trans (h6W.mono (by omega))
        have h3W : Below w3.heap.size w3 W := HB35.out.trans (h5W.mono (by omega))
        refine ⟨(h5W.block _ (by omega)).trans HX8.out.1, (h5W.block _ (by omega)).trans HX8.out.2, ?_, HK3.out.step h3W, (hra.below h6W (Nat.le_refl _)).mono h6W.size, HBU.out.below h3W, hb.size⟩
        rw [hb.block _ (by omega), hW7]; exact heap_alloc_new _ _))
      obtain ⟨N8, hN8⟩ : ∃ x, x = w3.heap.size := ⟨_, rfl⟩
      obtain ⟨N11, hN11⟩ : ∃ x, x = w6.heap.size := ⟨_, rfl⟩
      have HNS := Lib.hid (show w.heap.size + 1 + 1 + 1 + 1 ≤ N8 ∧ N8 + 1 < N11 ∧ N11 < W7.heap.size from by
        have h1 := K4.size HK3.out
        have h2 := HS5.out
        have h3 := hb6.size
        have h4 : W7.heap.size = w6.heap.size + 1 := by rw [hW7, size_alloc']
        omega)
      rw [← hN8, ← hN11] at HF7
      rw [← hN8]
      have HW7 := Lib.hid (Below.refl W7.heap.size W7)
      obtain ⟨z8, z10, z11, zk, -, -, -⟩ := HF7.out W7 HW7.out
      have t3 := cells_get z8 3
      simp at t3
      obtain ⟨hns1, hns2, hns3⟩ := HNS.out
      have hlA : N8 < w6.heap.size + 1 := by omega
      have hlB : N8 < w6.heap.size := by omega
      have HWE := Lib.hid hW7
      have HNE := Lib.hid hN11
      rw [hW7] at t3
      clear z8 z10 z11 zk hW7 hb67 hra hbu6 hb6 hnx6 hN8 hN11 HC6 HRD HX8 HS5 HB35 HW5 y1 y2 l1 l2 l1' HRO HBU hns3
      go_wp2_with fail
      rw [← HWE.out, ← HNE.out]
      clear t3 hlA hlB
      have HL0 := Lib.hid (Lst.nil W7 W7.heap.size 4)
      go_loopw [12, 13, 14, 43, 48] (fun s12 _ _ s43 _ wr => ∃ (p : Nat) (va12 : Value), p ≤ m3 ∧ s43 = .int .i64 p ∧ va12 = s12 ∧ Lst wr W7.heap.size 4 va12 (bv (p * (m + 1)) gg) ∧ Below W7.heap.size W7 wr) (fun _ _ _ s43 _ _ => m3 - (intOf s43).toNat)
      case atStart => exact ⟨0, _, Nat.zero_le _, rfl, rfl, by rw [Nat.zero_mul]; exact HL0.out, HW7.out⟩
      case round =>
        obtain ⟨p, va12, hp, rfl, rfl, hls, hbl⟩ := hrel
        have HLP := Lib.hid hls
        have HBP := Lib.hid hbl
        clear hls hbl HL0
        by_cases hlp : p < m3
        · obtain ⟨z8, z10, z11, zk, -, -, zs⟩ := HF7.out wr HBP.out
          have t10 := cells_get z10 0
          simp at t10
          have hl10 : N8 + 1 < wr.heap.size := by have := HNS.out.2.2; omega
          have HL1 := Lib.hid (show Lst wr W7.heap.size 4 va12 (bv (p * (m + 1) + 0) gg) from HLP.out)
          have HB1 := Lib.hid HBP.out
          clear z8 z10 z11 zk
          go_wp2_with fail
          go_loopw [12, 14, 48] (fun s12 _ s48 wr => ∃ (i : Nat) (va12 : Value), i ≤ m + 1 ∧ s48 = .int .i64 i ∧ va12 = s12 ∧ Lst wr W7.heap.size 4 va12 (bv (p * (m + 1) + i) gg) ∧ Below W7.heap.size W7 wr) (fun _ _ s48 _ => m + 1 - (intOf s48).toNat)
          case atStart => exact ⟨0, _, Nat.zero_le _, rfl, rfl, HL1.out, HB1.out⟩
          case round =>
            obtain ⟨i, va12, hi, rfl, rfl, hls, hbl⟩ := hrel
            have HLI := Lib.hid hls
            have HBI := Lib.hid hbl
            clear hls hbl HL1 HB1 HLP HBP zs hl10 t10
            by_cases hli : i < m + 1
            · obtain ⟨z8, z10, z11, zk, hra, -, zs⟩ := HF7.out wr HBI.out
              have HS5 := Lib.hid (fun W' (hb : Below W7.heap.size W7 W') => (show W'.cell? ⟨N11, 0, none⟩ = some (.int .i64 1) ∧ W'.cell? ⟨N11, 1, none⟩ = some (.int .i64 0) ∧ W'.cell? ⟨N11, 2, none⟩ = some (.slice a3 n3 c3) ∧ W'.cell? ⟨N11, 3, none⟩ = some (.slice b6 m6 d6) ∧ W'.cell? ⟨w.heap.size + 1 + 1, 0, none⟩ = some (.string u) from by
                obtain ⟨-, -, y11, yk, -, -, -⟩ := HF7.out W' hb
                exact ⟨by rw [cells_get y11]; rfl, by rw [cells_get y11]; rfl, by rw [cells_get y11]; rfl, by rw [cells_get y11]; rfl, by rw [cells_get (K4.box yk).2.2.1]; rfl⟩))
              have HRA := Lib.hid (show RelAt wr.drew wr.drew.heap.size (.agg #[.int .i64 1, .int .i64 0, .slice a3 n3 c3, .slice b6 m6 d6]) (relOf (aloneL T tape)) from hra)
              have HTKI := Lib.hid (HTK.out p (by rw [HLE.out (by trivial), ← HM3.out]; exact hlp) i wr.drew wr.drew.heap.size _ HRA.out (Nat.le_refl _))
              rw [← HGG.out p i hli] at HTKI
              obtain ⟨bb, hbb⟩ : ∃ b, b = gg (p * (m + 1) + i) := ⟨_, rfl⟩
              rw [← hbb, HM.out] at HTKI
              have HBB := Lib.hid hbb
              clear hbb
              have HBD := Lib.hid (show Below W7.heap.size W7 wr.drew from HBI.out.drew)
              obtain ⟨a12, n12, c12, rfl, HN12⟩ := HLI.out.shape'
              have HLD := Lib.hid (show Lst wr.drew W7.heap.size 4 (.slice a12 n12 c12) (bv (p * (m + 1) + i) gg) from HLI.out)
              have hpp : (p + 1) * (m + 1) ≤ P := by rw [HP.out]; exact Nat.mul_le_mul_right _ hlp
              have hpq : p * (m + 1) + i ≤ 1000 := by rw [Nat.succ_mul] at hpp; omega
              have HLEN := Lib.hid (show (bv (p * (m + 1) + i) gg).length ≤ 100000000 from by rw [bv_len]; omega)
              have hiu : (i : Int) ≤ (u.size : Int) := by rw [hsz]; omega
              have hsl : ∀ W, (Instr.slice 9 (.string u) (some (.int .i64 (i : Int))) none none).run Tryd.prog W = .ok (.string (u.extract i u.size)) W := fun W => run_slice_from W 9 u i Tryd.underlying9 (by omega)
              clear z8 z10 z11 zk hra hpp hpq HLI
              go_upto_region 15 with fail
              go_region_held3 (fun w' => w'.cell? ⟨N11, 0, none⟩ = some (.int .i64 1) ∧ w'.cell? ⟨N11, 1, none⟩ = some (.int .i64 0) ∧ w'.cell? ⟨N11, 2, none⟩ = some (.slice a3 n3 c3) ∧ w'.cell? ⟨N11, 3, none⟩ = some (.slice b6 m6 d6) ∧ w'.cell? ⟨w.heap.size + 1 + 1, 0, none⟩ = some (.string u))
                (first | exact HS5.out _ HBD.out | exact HS5.out _ HB4.out | exact HS5.out _ HB5.out | exact HS5.out _ HB4A.out | go_keep)
                (first
                  | (go_at_call 59; refine HTKI.out.mono ?_; rintro e w4 ⟨rfl, hb4⟩; have HB4 := Lib.hid (show Below W7.heap.size W7 w4 from HBD.out.trans (hb4.mono HBD.out.size)); have HB4A := Lib.hid (show Below W7.heap.size W7 (w4.alloc (.cells #[.bool bb] 4)) from HB4.out.alloc HB4.out.size _); have HL4 := Lib.hid (HLD.out.below hb4); clear hb4)
                  | (refine step_push (by rfl) _ _ 22 (by rfl) 4 (.bool false) 1 Tryd.underlying22 info4 (by decide) (by decide) W7.heap.size (.slice a12 n12 c12) _ (.bool bb) HL4.out HB4.out.size rfl HLEN.out (by rfl) w4.heap.size (by rfl) rfl ?_; intro v5 w5 hp5; obtain ⟨a5, n5, c5, rfl, HN5⟩ := hp5.lst.shape'; have HL5 := Lib.hid hp5.lst; have HB5 := Lib.hid (HB4.out.grown hp5.grow HB4.out.size (fun q hq => HL4.out.ge hq)); clear hp5))
              all_goals
                go_wp2_with fail
                go_roundw
                case rel =>
                  refine ⟨i + 1, _, hli, by go_num, rfl, ?_, HB5.out⟩
                  have h1 := HL5.out
                  rw [HBB.out, bv_snoc] at h1
                  exact h1
                case measure => simp [intOf]; omega
            · obtain rfl : i = m + 1 := by omega
              have hdd : decide ((m : Int) + 1 < (m : Int) + 1) = false := by simp
              go_wp2_with fail
              go_roundw
              case rel => exact ⟨p + 1, _, hlp, by go_num, rfl, by rw [Nat.succ_mul]; exact HLI.out, HBI.out⟩
              case measure => simp [intOf]; omega
        · obtain rfl : p = m3 := by omega
          have hTk := HTT.out.2.2
          simp only [hTk] at HFR
          obtain ⟨z8, z10, z11, zk, -, -, zs⟩ := HF7.out wr HBP.out
          have t0 := cells_get z8 0
          simp at t0
          have hl8 : N8 < wr.heap.size := lt_of_block z8
          have HC9 := Lib.hid (HNU.out wr)
          have hmf : ∀ (fn : Fn) (first cap : Array Value) (w : World), (Instr.makeFunc fn first cap).run Tryd.prog w = .ok (.func fn first cap) w := fun _ _ _ _ => rfl
          obtain ⟨kq, hkq⟩ : ∃ kq : Nat, kq = l.k - 1 := ⟨_, rfl⟩
          rw [← hkq] at HFR HAU HFL
          have hwk : IntKind.i64.wrap ((l.k : Int) - 1) = (kq : Int) := by
            rw [show (l.k : Int) - 1 = (kq : Int) by omega]
            exact (FixRule.wrap_small kq (by omega)).1
          obtain ⟨a12, n12, c12, rfl, -⟩ := HLP.out.shape'
          have hpm : p * (m + 1) ≤ 1000 := by rw [HM3.out]; exact hle2
          clear z8 z10 z11 zk hTk hkq
          go_wp2_with fail
          refine HC9.out.mono ?_
          rintro e w9 ⟨rfl, hown, hb9, hlt9⟩
          have HB9 := Lib.hid (show Below W7.heap.size W7 w9 from HBP.out.trans (hb9.mono HBP.out.size))
          have HL9 := Lib.hid (HLP.out.below hb9)
          obtain ⟨z8, z10, z11, zk, -, -, zs9⟩ := HF7.out w9 HB9.out
          have t9 := cells_get z8 0
          simp at t9
          have hl9 : N8 < w9.heap.size := lt_of_block z8
          obtain ⟨W10, hW10⟩ : ∃ W10, W10 = w9.alloc (.cells #[.map (some wr.heap.size)] 77) := ⟨_, rfl⟩
          have hb910 : Below w9.heap.size w9 W10 := by rw [hW10]; exact (Below.refl _ _).alloc (Nat.le_refl _) _
          have hat10 : W10.heap[w9.heap.size]? = some (.cells #[.map (some wr.heap.size)] 77 (0, 0)) := by rw [hW10]; exact heap_alloc_new _ _
          have hs10 : W10.heap.size = w9.heap.size + 1 := by rw [hW10, size_alloc']
          have HB10 := Lib.hid (show Below W7.heap.size W7 W10 from HB9.out.trans (hb910.mono HB9.out.size))
          have HL10 := Lib.hid (HL9.out.below hb910)
          have hown10 := ownsMap_of hown (hb910.block _ hlt9)
          have hacc : Lst W10 W7.heap.size 4 (.slice a12 n12 c12) (((List.range (p * (m + 1))).map gg).map Value.bool) := by rw [← bv_map]; exact HL10.out
          have HBO := Lib.hid (lst_bools hacc W10.heap.size (Nat.le_refl _))
          have HC11 := Lib.hid (HAU.out (.slice a12 n12 c12) ((List.range (p * (m + 1))).map gg) W10 W10.heap.size HBO.out (Nat.le_refl _) (by rw [List.length_map, List.length_range]; omega)
            #[.pointer (some ⟨N8 + 1, 0, none⟩), .pointer (some ⟨w.heap.size + 1 + 1, 0, none⟩), .pointer (some ⟨N8, 0, none⟩), .pointer (some ⟨w9.heap.size, 0, none⟩), .pointer (some ⟨w.heap.size + 1, 0, none⟩)] nx
            (fun W hb s c hs hc => by
              have hW7 : Below W7.heap.size W7 W := HB10.out.trans (hb.mono HB10.out.size)
              obtain ⟨y8, y10, -, yk, -, ybu, ys⟩ := HF7.out W hW7
              obtain ⟨-, yk1, yk2, -⟩ := K4.box yk
              have hsz := hb.size
              have hrows := built_introws ybu W.heap.size (Nat.le_refl _)
              rw [List.length_map, List.length_range] at hs
              have h := HFR.out (by trivial) hle2 s c (by rw [← HM3.out]; exact hs) hc (N8 + 1) (w.heap.size + 1 + 1) N8 w9.heap.size (w.heap.size + 1) wr.heap.size (.slice b3 p d3) W W.heap.size (Nat.le_refl _) (lt_of_block y10) (lt_of_block yk2) (lt_of_block y8) (by omega) (lt_of_block yk1) (by omega)
                (by rw [cells_get y10]; rfl) (by rw [cells_get yk2]; rfl) (by rw [cells_get y8]; rfl) (by rw [hb.cell (p := ⟨w9.heap.size, 0, none⟩) (by show w9.heap.size < _; omega), cells_get hat10]; rfl) (by rw [cells_get yk1]; rfl) (ownsMap_of hown10 (hb.block _ (by omega))) hrows
              rw [HNX.out] at h
              exact h))
          rw [hW10] at HC11
          have HW10 := Lib.hid hW10
          have HS10 := Lib.hid hs10
          clear hown hb9 hlt9 z8 z10 z11 zk t0 hb910 hat10 hs10 hown10 hacc HC9 HNU hl8 hW10 HL9 HLP HAU HFR
          go_wp2_with fail
          refine HC11.out.mono ?_
          rintro e w11 ⟨vn11, rfl, hbu11, hb11⟩
          rw [← HW10.out] at hbu11 hb11
          have HB11 := Lib.hid (show Below W7.heap.size W7 w11 from HB10.out.trans (hb11.mono HB10.out.size))
          have HRF := Lib.hid (show RelAt w11 w11.heap.size (.agg #[.int .i64 kq, .int .i64 0, .slice a12 n12 c12, vn11]) FL from by
            rw [HFL.out (by trivial), ← HM3.out]
            refine ⟨.slice a12 n12 c12, vn11, rfl, (HBO.out.below hb11 (Nat.le_refl _)).mono hb11.size, ?_⟩
            have h1 := built_rows hbu11 w11.heap.size (Nat.le_refl _)
            rw [List.length_map, List.length_range] at h1
            exact h1)
          have HC12 := Lib.hid (HST.out (by trivial) hle2 w11 w11.heap.size _ HRF.out (Nat.le_refl _))
          obtain ⟨items11, -, hnx11, -⟩ := hbu11.rows
          obtain ⟨b11, m11, d11, rfl, -⟩ := hnx11.shape'
          clear hbu11 hb11 hnx11 HC11 HST HRF t9 hl9
          go_wp2_with fail
          refine HC12.out.mono ?_
          rintro e w12 ⟨va, vn, rfl, hbu12, hb12⟩
          have HB12 := Lib.hid (show Below W7.heap.size W7 w12 from HB11.out.trans (hb12.mono HB11.out.size))
          obtain ⟨-, -, -, zk, -, -, zs12⟩ := HF7.out w12 HB12.out
          have HK12 := Lib.hid zk
          have HBU12 := Lib.hid (show Built w12 (w.heap.size + 1 + 1 + 1 + 1) va vn A N from hbu12.mono (by have := HB11.out.size; have := HNS.out; omega))
          obtain ⟨a8, n8, c8, rfl, -⟩ := hbu12.acc.shape'
          obtain ⟨items8, -, hnx8, -⟩ := hbu12.rows
          obtain ⟨b8, m8, d8, rfl, -⟩ := hnx8.shape'
          have hres := (K4.box zk).2.2.2
          have r0 := cells_get hres 0
          have r1 := cells_get hres 1
          have r2 := cells_get hres 2
          have r3 := cells_get hres 3
          have f0 := cells_free hres 0
          have f1 := cells_free hres 1
          have f2 := cells_free hres 2
          have f3 := cells_free hres 3
          have hlS := lt_of_block hres
          have p0 := cells_set hres 0 (.int .i64 K)
          have p1 := cells_set p0 1 (.int .i64 0)
          have p2 := cells_set p1 2 (.slice a8 n8 c8)
          have p3 := cells_set p2 3 (.slice b8 m8 d8)
          simp at r0 r1 r2 r3 p3
          have g0 := cells_get p3 0
          have g1 := cells_get p3 1
          have g2 := cells_get p3 2
          have g3 := cells_get p3 3
          simp at g0 g1 g2 g3
          have HG := Lib.hid (And.intro g0 (And.intro g1 (And.intro g2 g3)))
          clear p0 p1 p2 p3 g0 g1 g2 g3 hres hbu12 hb12 hnx8 HC12 zk
          go_wp2_with fail
          obtain ⟨g0, g1, g2, g3⟩ := HG.out
          refine bodyPost_ret (v := .tuple #[.agg #[.int .i64 K, .int .i64 0, .slice a8 n8 c8, .slice b8 m8 d8], errV Q 150]) (by simp [results, Tryd.results33, go_sem, g0, g1, g2, g3]) rfl ⟨.slice a8 n8 c8, .slice b8 m8 d8, 150, rfl, ?_, ?_⟩
          · have hlt3 : w.heap.size + 1 + 1 + 1 < w.heap.size + 1 + 1 + 1 + 1 := Nat.lt_succ_self _
            exact (((((HBU12.out.setLow (a := ⟨w.heap.size + 1 + 1 + 1, 0, none⟩) hlt3 _).setLow (a := ⟨w.heap.size + 1 + 1 + 1, 1, none⟩) hlt3 _).setLow (a := ⟨w.heap.size + 1 + 1 + 1, 2, none⟩) hlt3 _).setLow (a := ⟨w.heap.size + 1 + 1 + 1, 3, none⟩) hlt3 _).mono (by omega))
          · have HBW := K4.base HK12.out
            have hle3 : w.heap.size ≤ w.heap.size + 1 + 1 + 1 := by omega
            exact ((((HBW.setCell (p := ⟨w.heap.size + 1 + 1 + 1, 0, none⟩) hle3 _).setCell (p := ⟨w.heap.size + 1 + 1 + 1, 1, none⟩) hle3 _).setCell (p := ⟨w.heap.size + 1 + 1 + 1, 2, none⟩) hle3 _).setCell (p := ⟨w.heap.size + 1 + 1 + 1, 3, none⟩) hle3 _)
    · obtain rfl := HFM.out (by trivial) (by rw [← HM3.out, ← HP.out]; exact hle)
      obtain ⟨rfl, rfl, rfl⟩ := HN0.out rfl
      have hres := (K4.box HK3.out).2.2.2
      have r0 := cells_get hres 0
      have r1 := cells_get hres 1
      have r2 := cells_get hres 2
      have r3 := cells_get hres 3
      have f0 := cells_free hres 0
      have f1 := cells_free hres 1
      have f2 := cells_free hres 2
      have f3 := cells_free hres 3
      have hlS := lt_of_block hres
      have p0 := cells_set hres 0 (.int .i64 0)
      have p1 := cells_set p0 1 (.int .i64 0)
      have p2 := cells_set p1 2 (Value.slice none 0 0)
      have p3 := cells_set p2 3 (Value.slice none 0 0)
      simp at r0 r1 r2 r3 p3
      have p4 := (Below.heap_alloc _ (.cells #[.int .i64 (l.k : Nat), .int .i64 0, .slice a3 n3 c3, .slice b3 m3 d3] 27) _ (lt_of_block p3)).trans p3
      have g0 := cells_get p4 0
      have g1 := cells_get p4 1
      have g2 := cells_get p4 2
      have g3 := cells_get p4 3
      simp at g0 g1 g2 g3
      have HG := Lib.hid (And.intro g0 (And.intro g1 (And.intro g2 g3)))
      clear p0 p1 p2 p3 p4 g0 g1 g2 g3 hres
      clear HAL HRO HTK HFR HST HFL HNU HAU HN0 HE1 HFM
      go_wp2_with fail
      obtain ⟨g0, g1, g2, g3⟩ := HG.out
      refine bodyPost_ret (v := .tuple #[.agg #[.int .i64 0, .int .i64 0, .slice none 0 0, .slice none 0 0], .iface 74 (.int .i64 1000)]) (by simp [results, Tryd.results33, go_sem, g0, g1, g2, g3]) rfl ⟨.slice none 0 0, .slice none 0 0, 1000, rfl, ImplTidied.built_none _ _, ?_⟩
      have HBW := K4.base HK3.out
      have hle3 : w.heap.size ≤ w.heap.size + 1 + 1 + 1 := by omega
      exact ((((HBW.setCell (p := ⟨w.heap.size + 1 + 1 + 1, 0, none⟩) hle3 _).setCell (p := ⟨w.heap.size + 1 + 1 + 1, 1, none⟩) hle3 _).setCell (p := ⟨w.heap.size + 1 + 1 + 1, 2, none⟩) hle3 _).setCell (p := ⟨w.heap.size + 1 + 1 + 1, 3, none⟩) hle3 _).alloc (by simp [World.setCell]; have := HBW.size; omega) _
end Go.Proofs.YtcpcbmappcndcaaDoor.FixedI
/- A list of truth values that is cloned.
   Conditions: stated at each theorem. -/
namespace Go.Proofs.YtcpcbmappcndcaaDoor.CloneB
set_option linter.unusedVariables false
set_option linter.unusedSimpArgs false
set_option maxRecDepth 20000
open Go.RowKit Mem Copy Rel Heap

theorem not_nilB (b o n cap : Nat) (w : World) : (binOp BinOp.eql 22 (.slice (some ⟨b, o, none⟩) n cap) (.slice none 0 0)).run Tryd.prog w = .ok (.bool false) w := by kernel_rfl
end Go.Proofs.YtcpcbmappcndcaaDoor.CloneB
