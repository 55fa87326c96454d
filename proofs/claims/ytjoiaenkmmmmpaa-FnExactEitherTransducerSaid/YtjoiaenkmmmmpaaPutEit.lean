
/- The program's EitherTransducer: what it answers for two valid transducers, and what put and limited do for it.
   Conditions: the transducers are read as XEdg's text says. -/
import Derived.Test.YtjoiaenkmmmmpaaPutKit
namespace Go.Proofs.Ytjoiaenkmmmmpaa.PutEit
set_option linter.unusedVariables false
set_option linter.unusedSimpArgs false
set_option maxRecDepth 100000
open Go.RowKit Mem Copy Rel Heap MarkRow Edg EdgCopy EdgEq TrHeap TrLawKit TrValid TrImplValid TurnImpl TurnSpec TrReach TrReached TrimKit AddSpec ToldTr Grow GrowS RepSpec GrowN RepImpl TwoTr EitSpec EitImpl LimC PutKit 

abbrev fn : Value := .func (.func 59) #[] #[]

set_option maxHeartbeats 4000000 in
theorem built (s t : T) (va vn ua un : Value) (b1 b2 fb : Nat) (w : World) (B : Nat) (hp : TrPtr w B b1 s va vn) (hq : TrPtr w B b2 t ua un) (hfb : w.cell? ⟨fb, 0, none⟩ = some fn) (hfl : fb < w.heap.size) (hB : B ≤ w.heap.size) (hok : okT s = true) (hok' : okT t = true) :
    Calls Try.prog 84 #[.pointer (some ⟨fb, 0, none⟩), .pointer (some ⟨b1, 0, none⟩), .pointer (some ⟨b2, 0, none⟩)] w fun e w' => Below w.heap.size w w' ∧
      ((fitsT (eitA s t) (eitN s t) = true ∧ ∃ va vn, e = .returned (.agg #[.int .i64 (0), va, vn]) ∧ BuiltT w' w.heap.size va vn (eitA s t) (eitN s t)) ∨
        (fitsT (eitA s t) (eitN s t) = false ∧ e = .panicked [{ v := .iface 109 (.agg #[]), recovered := false }])) := by
  have HR := Lib.hid (fun W (hb : Below w.heap.size w W) => eitherOf (.agg #[.int .i64 s.start, va, vn]) (.agg #[.int .i64 t.start, ua, un]) s t W B ⟨_, _, rfl, hp.acc.below hb hB, hp.edges.below hb hB⟩ ⟨_, _, rfl, hq.acc.below hb hB, hq.edges.below hb hB⟩ (Nat.le_trans hB hb.size) hok hok')
  obtain ⟨⟨c0, c1, c2, hlt⟩, -, -⟩ := hp
  obtain ⟨⟨d0, d1, d2, hlt2⟩, -, -⟩ := hq
  have HR1 := Lib.hid (HR.out _ ((Below.refl _ w).alloc (Nat.le_refl _) (.cells #[Value.int .i64 0, .slice none 0 0, .slice none 0 0] 30)))
  have HW := Lib.hid ((Below.refl _ w).alloc (Nat.le_refl _) (.cells #[Value.int .i64 0, .slice none 0 0, .slice none 0 0] 30))
  have hcf : ∀ (args : Array Value) (W : World), (callFunc 59 args).run Try.prog W = .ok (.enter 59 args) W := fun _ _ => rfl
  go_enter Try.func84, Try.ntmps84
  go_wp2_with fail
  refine HR1.out.mono ?_
  rintro e w1 ⟨hb, ⟨hf, va', vn', rfl, hbu⟩ | ⟨hf, rfl⟩⟩
  · have HKP := Lib.hid (show Kp w w1 from by have := hb; rwa [size_alloc'] at this)
    have HBU := Lib.hid (show BuiltT w1 (w.heap.size + 1) va' vn' (eitA s t) (eitN s t) by have := hbu; rwa [size_alloc'] at this)
    have HF := Lib.hid hf
    obtain ⟨a4, n4, c4, rfl, -⟩ := hbu.acc.shape'
    obtain ⟨b4, m4, d4, rfl, -⟩ := hbu.edg.shape'
    have hrs := Kp.res HKP.out
    have r0 := (cell_of_block hrs 0).1
    have r1 := (cell_of_block hrs 1).1
    have r2 := (cell_of_block hrs 2).1
    have r3 := (cell_of_block hrs 0).2
    have r4 := (cell_of_block hrs 1).2
    have r5 := (cell_of_block hrs 2).2
    simp at r0 r1 r2
    have l1 := lt_of_block hrs
    clear hb hf hbu hrs HR HR1 HW
    go_wp2
    obtain ⟨g0, g1, g2⟩ := put3_cells (a := .int .i64 (0)) (b := .slice a4 n4 c4) (c := .slice b4 m4 d4) (Kp.res HKP.out)
    refine bodyPost_ret (v := .agg #[.int .i64 (0), .slice a4 n4 c4, .slice b4 m4 d4]) (by simp [results, Try.results84, go_sem, g0, g1, g2]) rfl ⟨put3_below (Kp.base HKP.out) (Nat.le_refl _), .inl ⟨HF.out, _, _, rfl, BuiltT.mono (BuiltT.put3 HBU.out (Nat.lt_succ_self _)) (Nat.le_succ _)⟩⟩
  · have HB := Lib.hid (base_step HW.out hb)
    have HF := Lib.hid hf
    clear hb hf
    go_wp2_with fail
    exact ⟨rfl, HB.out, .inr ⟨HF.out, rfl⟩⟩

set_option maxHeartbeats 4000000 in
theorem limited (s t : T) (va vn ua un : Value) (b1 b2 fb : Nat) (w : World) (B : Nat) (hp : TrPtr w B b1 s va vn) (hq : TrPtr w B b2 t ua un) (hfb : w.cell? ⟨fb, 0, none⟩ = some fn) (hfl : fb < w.heap.size) (hB : B ≤ w.heap.size) (hok : okT s = true) (hok' : okT t = true) :
    Calls Try.prog 55 #[.func (.func 84) #[] #[.pointer (some ⟨fb, 0, none⟩), .pointer (some ⟨b1, 0, none⟩), .pointer (some ⟨b2, 0, none⟩)]] w fun e w' => Below w.heap.size w w' ∧
      ((fitsT (eitA s t) (eitN s t) = true ∧ ∃ va vn, e = .returned (.tuple #[.agg #[.int .i64 (0), va, vn], .int .i64 0]) ∧ BuiltT w' w.heap.size va vn (eitA s t) (eitN s t)) ∨
        (fitsT (eitA s t) (eitN s t) = false ∧ e = .returned (.tuple #[.agg #[.int .i64 0, .slice none 0 0, .slice none 0 0], .int .i64 3]))) := by
  have HR := Lib.hid (fun W (hb : Below w.heap.size w W) => built s t va vn ua un b1 b2 fb W B ⟨hp.box.step hb, hp.acc.below hb hB, hp.edges.below hb hB⟩ ⟨hq.box.step hb, hq.acc.below hb hB, hq.edges.below hb hB⟩ ((hb.cell (p := ⟨fb, 0, none⟩) hfl).trans hfb) (Nat.lt_of_lt_of_le hfl hb.size) (Nat.le_trans hB hb.size) hok hok')
  obtain ⟨⟨c0, c1, c2, hlt⟩, -, -⟩ := hp
  clear hq hfb hfl
  have hmf : ∀ (fn : Fn) (first cap : Array Value) (w : World), (Instr.makeFunc fn first cap).run Try.prog w = .ok (.func fn first cap) w := fun _ _ _ _ => rfl
  have HB0 := Lib.hid (base_box (base_box (Below.refl _ w) (.cells #[Value.int .i64 0, .slice none 0 0, .slice none 0 0] 30)) (.cells #[Value.int .i64 0] 2))
  go_enter_defers Try.func55, Try.ntmps55
  go_wp2_with fail
  refine (HR.out _ HB0.out).mono ?_
  rintro e w1 ⟨hb, ⟨hf, va', vn', rfl, hbu⟩ | ⟨hf, rfl⟩⟩
  · have hS : w1.heap[w.heap.size]? = some (.cells #[Value.int .i64 0, .slice none 0 0, .slice none 0 0] 30 (0, 0)) := by
      rw [hb.block _ (by rw [size_alloc', size_alloc']; omega), Below.heap_alloc _ _ _ (by rw [size_alloc']; omega)]; exact heap_alloc_new _ _
    have hT : w1.heap[w.heap.size + 1]? = some (.cells #[Value.int .i64 0] 2 (0, 0)) := by
      rw [hb.block _ (by rw [size_alloc', size_alloc']; omega)]
      have h1 := heap_alloc_new (w.alloc (.cells #[Value.int .i64 0, .slice none 0 0, .slice none 0 0] 30)) (.cells #[Value.int .i64 0] 2)
      rwa [size_alloc'] at h1
    obtain ⟨a4, n4, c4, rfl, -⟩ := hbu.acc.shape'
    obtain ⟨b4, m4, d4, rfl, -⟩ := hbu.edg.shape'
    have r0 := (cell_of_block hS 0).1
    have r1 := (cell_of_block hS 1).1
    have r2 := (cell_of_block hS 2).1
    have r3 := (cell_of_block hS 0).2
    have r4 := (cell_of_block hS 1).2
    have r5 := (cell_of_block hS 2).2
    have r6 := (cell_of_block hT 0).1
    have r7 := (cell_of_block hT 0).2
    simp at r0 r1 r2 r6
    have l1 := lt_of_block hS
    have l2 := lt_of_block hT
    have HF := Lib.hid hf
    have HBU := Lib.hid (show BuiltT w1 (w.heap.size + 2) (.slice a4 n4 c4) (.slice b4 m4 d4) (eitA s t) (eitN s t) by have := hbu; rwa [size_alloc', size_alloc'] at this)
    have HB := Lib.hid (base_step HB0.out hb)
    have HS := Lib.hid hS
    have HT := Lib.hid hT
    clear hb hf hbu HR HB0 hS hT
    go_wp2
    refine leaves_cons (f := 80) (args := #[.pointer (some ⟨w.heap.size + 1, 0, none⟩)]) (by simp) (by simp [go_sem]) ?_
    refine (idle ⟨w.heap.size + 1, 0, none⟩ _).mono ?_
    rintro e u' w'' ⟨rfl, rfl, rfl⟩
    have h1 : ((put3 w1 w.heap.size (.int .i64 (0)) (.slice a4 n4 c4) (.slice b4 m4 d4)).setCell ⟨w.heap.size + 1, 0, none⟩ (.int .i64 0)).heap[w.heap.size]? = some (.cells #[.int .i64 (0), .slice a4 n4 c4, .slice b4 m4 d4] 30 (0, 0)) :=
      (Below.heap_setCell _ _ _ _ (by show w.heap.size ≠ w.heap.size + 1; omega)).trans (put3_block HS.out)
    have h2 : (put3 w1 w.heap.size (.int .i64 (0)) (.slice a4 n4 c4) (.slice b4 m4 d4)).heap[w.heap.size + 1]? = some (.cells #[.int .i64 0] 2 (0, 0)) :=
      (Below.heap_setCell _ _ _ _ (by show w.heap.size + 1 ≠ w.heap.size; omega)).trans ((Below.heap_setCell _ _ _ _ (by show w.heap.size + 1 ≠ w.heap.size; omega)).trans ((Below.heap_setCell _ _ _ _ (by show w.heap.size + 1 ≠ w.heap.size; omega)).trans HT.out))
    have h3 : ((put3 w1 w.heap.size (.int .i64 (0)) (.slice a4 n4 c4) (.slice b4 m4 d4)).setCell ⟨w.heap.size + 1, 0, none⟩ (.int .i64 0)).heap[w.heap.size + 1]? = some (.cells #[.int .i64 0] 2 (0, 0)) := blk_set h2
    have g0 := (cell_of_block h1 0).1
    have g1 := (cell_of_block h1 1).1
    have g2 := (cell_of_block h1 2).1
    have g3 := (cell_of_block h3 0).1
    simp at g0 g1 g2 g3
    simp [Leaves, settle, results, Try.results55, go_sem, g0, g1, g2, g3]
    exact ⟨Below.setCell (put3_below HB.out (Nat.le_refl _)) (p := ⟨w.heap.size + 1, 0, none⟩) (Nat.le_succ _) _, HF.out, _, _, ⟨rfl, rfl⟩, BuiltT.mono (BuiltT.setLow (BuiltT.put3 HBU.out (by omega)) (a := ⟨w.heap.size + 1, 0, none⟩) (by show w.heap.size + 1 < w.heap.size + 2; omega) _) (by omega)⟩
  · have hS : w1.heap[w.heap.size]? = some (.cells #[Value.int .i64 0, .slice none 0 0, .slice none 0 0] 30 (0, 0)) := by
      rw [hb.block _ (by rw [size_alloc', size_alloc']; omega), Below.heap_alloc _ _ _ (by rw [size_alloc']; omega)]; exact heap_alloc_new _ _
    have hT : w1.heap[w.heap.size + 1]? = some (.cells #[Value.int .i64 0] 2 (0, 0)) := by
      rw [hb.block _ (by rw [size_alloc', size_alloc']; omega)]
      have h1 := heap_alloc_new (w.alloc (.cells #[Value.int .i64 0, .slice none 0 0, .slice none 0 0] 30)) (.cells #[Value.int .i64 0] 2)
      rwa [size_alloc'] at h1
    have HF := Lib.hid hf
    have HB := Lib.hid (base_step HB0.out hb)
    have HS := Lib.hid hS
    have HT := Lib.hid hT
    clear hb hf HR HB0 hS hT
    go_wp2
    refine leaves_cons (f := 80) (args := #[.pointer (some ⟨w.heap.size + 1, 0, none⟩)]) (by simp) (by simp [go_sem]) ?_
    refine (caught (w.heap.size + 1) (.int .i64 0) _ (by have := (cell_of_block HT.out 0).1; simpa using this) (cell_of_block HT.out 0).2 (lt_of_block HT.out)).mono ?_
    rintro e u' w'' ⟨rfl, rfl, rfl⟩
    have h2 : ((w1.setCell ⟨w.heap.size + 1, 0, none⟩ (.int .i64 3)).setCell ⟨w.heap.size + 1, 0, none⟩ (.int .i64 3)).heap[w.heap.size + 1]? = some (.cells #[.int .i64 3] 2 (0, 0)) := blk_set (blk_set HT.out)
    have h1 : ((w1.setCell ⟨w.heap.size + 1, 0, none⟩ (.int .i64 3)).setCell ⟨w.heap.size + 1, 0, none⟩ (.int .i64 3)).heap[w.heap.size]? = some (.cells #[Value.int .i64 0, .slice none 0 0, .slice none 0 0] 30 (0, 0)) :=
      (Below.heap_setCell _ _ _ _ (by show w.heap.size ≠ w.heap.size + 1; omega)).trans ((Below.heap_setCell _ _ _ _ (by show w.heap.size ≠ w.heap.size + 1; omega)).trans HS.out)
    have h3 := (Below.heap_alloc ((w1.setCell ⟨w.heap.size + 1, 0, none⟩ (.int .i64 3)).setCell ⟨w.heap.size + 1, 0, none⟩ (.int .i64 3)) (.cells #[] 109) _ (lt_of_block h2)).trans h2
    have h4 := (Below.heap_alloc ((w1.setCell ⟨w.heap.size + 1, 0, none⟩ (.int .i64 3)).setCell ⟨w.heap.size + 1, 0, none⟩ (.int .i64 3)) (.cells #[] 109) _ (lt_of_block h1)).trans h1
    have g0 := (cell_of_block h4 0).1
    have g1 := (cell_of_block h4 1).1
    have g2 := (cell_of_block h4 2).1
    have g3 := (cell_of_block h3 0).1
    have hsz : w.heap.size ≤ ((w1.setCell ⟨w.heap.size + 1, 0, none⟩ (.int .i64 3)).setCell ⟨w.heap.size + 1, 0, none⟩ (.int .i64 3)).heap.size := Nat.le_of_lt (lt_of_block h1)
    have HX := Lib.hid (Below.alloc (Below.setCell (Below.setCell HB.out (p := ⟨w.heap.size + 1, 0, none⟩) (Nat.le_succ _) (.int .i64 3)) (p := ⟨w.heap.size + 1, 0, none⟩) (Nat.le_succ _) (.int .i64 3)) hsz (.cells #[] 109))
    clear hsz h1 h2 h3 h4
    simp only [List.getElem?_toArray, List.getElem?_cons_zero, List.getElem?_cons_succ] at g0 g1 g2 g3
    simp [Leaves, settle, results, Try.results55, go_sem, g0, g1, g2, g3]
    exact ⟨HX.out, HF.out⟩

set_option maxHeartbeats 4000000 in
theorem putIn (v v' : Value) (s t : T) (w : World) (B : Nat) (h : TrAt w B v s) (h' : TrAt w B v' t) (hB : B ≤ w.heap.size) (hok : okT s = true) (hok' : okT t = true) :
    Calls Try.prog 58 #[v, v', fn] w fun e w' => Below w.heap.size w w' ∧
      ((fitsT (eitA s t) (eitN s t) = true ∧ ∃ va vn, e = .returned (.tuple #[.agg #[.int .i64 (0), va, vn], .int .i64 0]) ∧ BuiltT w' w.heap.size va vn (eitA s t) (eitN s t)) ∨
        (fitsT (eitA s t) (eitN s t) = false ∧ e = .returned (.tuple #[.agg #[.int .i64 0, .slice none 0 0, .slice none 0 0], .int .i64 3]))) := by
  have HV := Lib.hid (fun W (hb : Below w.heap.size w W) => implValid v s W B (h.below hb hB) (Nat.le_trans hB hb.size))
  have HV' := Lib.hid (fun W (hb : Below w.heap.size w W) => implValid v' t W B (h'.below hb hB) (Nat.le_trans hB hb.size))
  rw [hok] at HV
  rw [hok'] at HV'
  obtain ⟨va, vn, rfl, hacc, hed⟩ := h
  obtain ⟨ua, un, rfl, gacc, ged⟩ := h'
  have HLM := Lib.hid (fun W (hb : K4 w #[.int .i64 s.start, va, vn] #[.int .i64 t.start, ua, un] fn W) =>
    limited s t va vn ua un w.heap.size (w.heap.size + 1) (w.heap.size + 2) W B
      ⟨⟨(cell_of_block (K4.b1 hb) 0).1, (cell_of_block (K4.b1 hb) 1).1, (cell_of_block (K4.b1 hb) 2).1, by have := K4.size hb; omega⟩, hacc.below (K4.base hb) hB, hed.below (K4.base hb) hB⟩
      ⟨⟨(cell_of_block (K4.b2 hb) 0).1, (cell_of_block (K4.b2 hb) 1).1, (cell_of_block (K4.b2 hb) 2).1, by have := K4.size hb; omega⟩, gacc.below (K4.base hb) hB, ged.below (K4.base hb) hB⟩
      (cell_of_block (K4.b3 hb) 0).1 (by have := K4.size hb; omega) (by have := K4.size hb; omega) hok hok')
  have HK0 := Lib.hid (show K4 w #[.int .i64 s.start, va, vn] #[.int .i64 t.start, ua, un] fn ((((w.alloc (.cells #[.int .i64 s.start, va, vn] 30)).alloc (.cells #[.int .i64 t.start, ua, un] 30)).alloc (.cells #[fn] 62)).alloc zeroT) from Below.refl _ _)
  have hmf : ∀ (fn : Fn) (first cap : Array Value) (w : World), (Instr.makeFunc fn first cap).run Try.prog w = .ok (.func fn first cap) w := fun _ _ _ _ => rfl
  obtain ⟨aa, ba, oa, ca, rfl, -, -, -⟩ := hacc
  obtain ⟨ab, bb, ob, cb, rfl, -, -, -⟩ := hed
  obtain ⟨ad, bd, od, cd, rfl, -, -, -⟩ := gacc
  obtain ⟨ae, be, oe, ce, rfl, -, -, -⟩ := ged
  obtain ⟨n1, hn1⟩ : ∃ n, n = s.accept.length := ⟨_, rfl⟩
  obtain ⟨n2, hn2⟩ : ∃ n, n = s.edges.length := ⟨_, rfl⟩
  obtain ⟨n3, hn3⟩ : ∃ n, n = t.accept.length := ⟨_, rfl⟩
  obtain ⟨n4, hn4⟩ : ∃ n, n = t.edges.length := ⟨_, rfl⟩
  rw [← hn1, ← hn2] at HV
  rw [← hn3, ← hn4] at HV'
  rw [← hn1, ← hn2, ← hn3, ← hn4] at HLM HK0 ⊢
  clear hn1 hn2 hn3 hn4 hok hok' hB
  go_enter Try.func58, Try.ntmps58
  go_wp2_with fail
  refine (HV.out _ (K4.base HK0.out)).mono ?_
  rintro e w1 ⟨rfl, hb⟩
  have HK1 := Lib.hid (K4.step HK0.out hb)
  have d0 := (cell_of_block (K4.b2 HK1.out) 0).1
  have d1 := (cell_of_block (K4.b2 HK1.out) 1).1
  have d2 := (cell_of_block (K4.b2 HK1.out) 2).1
  simp at d0 d1 d2
  have hl1 : w.heap.size + 1 < w1.heap.size := by have := K4.size HK1.out; omega
  clear hb HV HK0
  go_wp2_with fail
  refine (HV'.out _ (K4.base HK1.out)).mono ?_
  rintro e w2 ⟨rfl, hb⟩
  have HK2 := Lib.hid (K4.step HK1.out hb)
  clear hb HV' HK1 d0 d1 d2 hl1
  go_wp2_with fail
  refine (HLM.out _ HK2.out).mono ?_
  rintro e w3 ⟨hb, ⟨hf, xa, xn, rfl, hbu⟩ | ⟨hf, rfl⟩⟩
  · have HK3 := Lib.hid (K4.step HK2.out hb)
    have HBU := Lib.hid (hbu.mono (K4.size HK2.out))
    have HF := Lib.hid hf
    obtain ⟨a4, m4, c4, rfl, -⟩ := hbu.acc.shape'
    obtain ⟨b4, k4, e4, rfl, -⟩ := hbu.edg.shape'
    obtain ⟨r0, r1, r2, s0, s1, s2⟩ := K4.cells HK3.out
    have hl := K4.size HK3.out
    clear hb hbu HK2 HLM hf
    go_wp2
    obtain ⟨g0, g1, g2⟩ := put3_cells (a := .int .i64 (0)) (b := .slice a4 m4 c4) (c := .slice b4 k4 e4) (K4.res HK3.out)
    refine bodyPost_ret (v := .tuple #[.agg #[.int .i64 (0), .slice a4 m4 c4, .slice b4 k4 e4], .int .i64 0]) (by simp [results, Try.results58, go_sem, g0, g1, g2]) rfl ⟨put3_below (K4.base HK3.out) (by omega), .inl ⟨HF.out, _, _, rfl, BuiltT.mono (BuiltT.put3 HBU.out (by omega)) (by omega)⟩⟩
  · have HK3 := Lib.hid (K4.step HK2.out hb)
    have HF := Lib.hid hf
    obtain ⟨r0, r1, r2, s0, s1, s2⟩ := K4.cells HK3.out
    have hl := K4.size HK3.out
    clear hb HK2 HLM hf
    go_wp2
    obtain ⟨g0, g1, g2⟩ := put3_cells (a := .int .i64 0) (b := .slice none 0 0) (c := .slice none 0 0) (K4.res HK3.out)
    refine bodyPost_ret (v := .tuple #[.agg #[.int .i64 0, .slice none 0 0, .slice none 0 0], .int .i64 3]) (by simp [results, Try.results58, go_sem, g0, g1, g2]) rfl ⟨put3_below (K4.base HK3.out) (by omega), .inr ⟨HF.out, rfl⟩⟩

set_option maxHeartbeats 4000000 in
theorem putNo (v v' : Value) (s t : T) (w : World) (B : Nat) (h : TrAt w B v s) (h' : TrAt w B v' t) (hB : B ≤ w.heap.size) (hno : okT s = false ∨ okT t = false) :
    Calls Try.prog 58 #[v, v', fn] w fun e w' => Below w.heap.size w w' ∧ e = .returned (.tuple #[.agg #[.int .i64 0, .slice none 0 0, .slice none 0 0], .int .i64 1]) := by
  have HV := Lib.hid (fun W (hb : Below w.heap.size w W) => implValid v s W B (h.below hb hB) (Nat.le_trans hB hb.size))
  have HV' := Lib.hid (fun W (hb : Below w.heap.size w W) => implValid v' t W B (h'.below hb hB) (Nat.le_trans hB hb.size))
  obtain ⟨va, vn, rfl, -, -⟩ := h
  obtain ⟨ua, un, rfl, -, -⟩ := h'
  have HK0 := Lib.hid (show K4 w #[.int .i64 s.start, va, vn] #[.int .i64 t.start, ua, un] fn ((((w.alloc (.cells #[.int .i64 s.start, va, vn] 30)).alloc (.cells #[.int .i64 t.start, ua, un] 30)).alloc (.cells #[fn] 62)).alloc zeroT) from Below.refl _ _)
  cases hok : okT s with
  | false =>
    rw [hok] at HV
    clear hno hok hB
    go_enter Try.func58, Try.ntmps58
    go_wp2_with fail
    refine (HV.out _ (K4.base HK0.out)).mono ?_
    rintro e w1 ⟨rfl, hb⟩
    have HK3 := Lib.hid (K4.step HK0.out hb)
    obtain ⟨r0, r1, r2, s0, s1, s2⟩ := K4.cells HK3.out
    have hl := K4.size HK3.out
    clear hb HK0 HV HV'
    go_wp2
    obtain ⟨g0, g1, g2⟩ := put3_cells (a := .int .i64 0) (b := .slice none 0 0) (c := .slice none 0 0) (K4.res HK3.out)
    refine bodyPost_ret (v := .tuple #[.agg #[.int .i64 0, .slice none 0 0, .slice none 0 0], .int .i64 1]) (by simp [results, Try.results58, go_sem, g0, g1, g2]) rfl ⟨put3_below (K4.base HK3.out) (by omega), rfl⟩
  | true =>
    have hok' : okT t = false := by rcases hno with h | h; (rw [hok] at h; cases h); exact h
    rw [hok] at HV
    rw [hok'] at HV'
    clear hno hok hok' hB
    go_enter Try.func58, Try.ntmps58
    go_wp2_with fail
    refine (HV.out _ (K4.base HK0.out)).mono ?_
    rintro e w1 ⟨rfl, hb⟩
    have HK1 := Lib.hid (K4.step HK0.out hb)
    have d0 := (cell_of_block (K4.b2 HK1.out) 0).1
    have d1 := (cell_of_block (K4.b2 HK1.out) 1).1
    have d2 := (cell_of_block (K4.b2 HK1.out) 2).1
    simp at d0 d1 d2
    have hl1 : w.heap.size + 1 < w1.heap.size := by have := K4.size HK1.out; omega
    clear hb HV HK0
    go_wp2_with fail
    refine (HV'.out _ (K4.base HK1.out)).mono ?_
    rintro e w2 ⟨rfl, hb⟩
    have HK3 := Lib.hid (K4.step HK1.out hb)
    obtain ⟨r0, r1, r2, s0, s1, s2⟩ := K4.cells HK3.out
    have hl := K4.size HK3.out
    clear hb HK1 HV' d0 d1 d2 hl1
    go_wp2
    obtain ⟨g0, g1, g2⟩ := put3_cells (a := .int .i64 0) (b := .slice none 0 0) (c := .slice none 0 0) (K4.res HK3.out)
    refine bodyPost_ret (v := .tuple #[.agg #[.int .i64 0, .slice none 0 0, .slice none 0 0], .int .i64 1]) (by simp [results, Try.results58, go_sem, g0, g1, g2]) rfl ⟨put3_below (K4.base HK3.out) (by omega), rfl⟩

/-! What both sides answer. -/
def both (s t : T) : Bool := okT s && okT t
def ansK (s t : T) : Int := if both s t && fitsT (eitA s t) (eitN s t) then 0 else 0
def ansC (s t : T) : Int := if both s t then (if fitsT (eitA s t) (eitN s t) then 0 else 3) else 1
def ansA (s t : T) : List Bool := if both s t && fitsT (eitA s t) (eitN s t) then (eitA s t) else []
def ansN (s t : T) : List E := if both s t && fitsT (eitA s t) (eitN s t) then (eitN s t) else []
theorem ans_len (s t : T) : (ansA s t).length ≤ 1000 ∧ (ansN s t).length ≤ 1000 := by
  unfold ansA ansN
  cases h : both s t && fitsT (eitA s t) (eitN s t) with
  | false => exact ⟨Nat.zero_le _, Nat.zero_le _⟩
  | true =>
    rw [Bool.and_eq_true] at h
    obtain ⟨-, h2⟩ := h
    unfold fitsT at h2
    simp only [Bool.and_eq_true, decide_eq_true_eq] at h2
    exact ⟨by rw [if_pos rfl]; omega, by rw [if_pos rfl]; omega⟩
theorem ans_no {s t : T} (h : okT s = false ∨ okT t = false) : ansK s t = 0 ∧ ansC s t = 1 ∧ ansA s t = [] ∧ ansN s t = [] := by
  have hb : both s t = false := by unfold both; rcases h with h | h <;> rw [h]; simp; simp
  unfold ansK ansC ansA ansN; rw [hb]; simp
theorem ans_yes {s t : T} (h : okT s = true) (h' : okT t = true) (hf : fitsT (eitA s t) (eitN s t) = true) : ansK s t = 0 ∧ ansC s t = 0 ∧ ansA s t = (eitA s t) ∧ ansN s t = (eitN s t) := by
  have hb : both s t = true := by unfold both; rw [h, h']; rfl
  unfold ansK ansC ansA ansN; rw [hb, hf]; simp
theorem ans_lim {s t : T} (h : okT s = true) (h' : okT t = true) (hf : fitsT (eitA s t) (eitN s t) = false) : ansK s t = 0 ∧ ansC s t = 3 ∧ ansA s t = [] ∧ ansN s t = [] := by
  have hb : both s t = true := by unfold both; rw [h, h']; rfl
  unfold ansK ansC ansA ansN; rw [hb, hf]; simp
theorem none_built (w : World) (B : Nat) : BuiltT w B (.slice none 0 0) (.slice none 0 0) [] [] := ⟨Lst.nil _ _ _, LstE.nil _ _, fun i hi => absurd hi (Nat.not_lt_zero i), by simp⟩

theorem putAns (v v' : Value) (s t : T) (w : World) (B : Nat) (h : TrAt w B v s) (h' : TrAt w B v' t) (hB : B ≤ w.heap.size) :
    Calls Try.prog 58 #[v, v', fn] w fun e w' => ∃ va vn, e = .returned (.tuple #[.agg #[.int .i64 (ansK s t), va, vn], .int .i64 (ansC s t)]) ∧ BuiltT w' w.heap.size va vn (ansA s t) (ansN s t) ∧ Below w.heap.size w w' := by
  by_cases hno : okT s = false ∨ okT t = false
  · obtain ⟨e1, e2, e3, e4⟩ := ans_no hno
    rw [e1, e2, e3, e4]
    refine (putNo v v' s t w B h h' hB hno).mono ?_
    rintro e w' ⟨hb, rfl⟩
    exact ⟨_, _, rfl, none_built _ _, hb⟩
  · have h1 : okT s = true := by cases hs : okT s; (exact absurd (.inl hs) hno); rfl
    have h2 : okT t = true := by cases hs : okT t; (exact absurd (.inr hs) hno); rfl
    refine (putIn v v' s t w B h h' hB h1 h2).mono ?_
    rintro e w' ⟨hb, ⟨hf, va, vn, rfl, hbu⟩ | ⟨hf, rfl⟩⟩
    · obtain ⟨e1, e2, e3, e4⟩ := ans_yes h1 h2 hf
      rw [e1, e2, e3, e4]
      exact ⟨_, _, rfl, hbu, hb⟩
    · obtain ⟨e1, e2, e3, e4⟩ := ans_lim h1 h2 hf
      rw [e1, e2, e3, e4]
      exact ⟨_, _, rfl, none_built _ _, hb⟩

set_option maxHeartbeats 4000000 in
theorem implAns (v v' : Value) (s t : T) (w : World) (B : Nat) (h : TrAt w B v s) (h' : TrAt w B v' t) (hB : B ≤ w.heap.size) :
    Calls Try.prog 26 #[v, v'] w fun e w' => ∃ va vn, e = .returned (.tuple #[.agg #[.int .i64 (ansK s t), va, vn], .int .i64 (ansC s t)]) ∧ BuiltT w' w.heap.size va vn (ansA s t) (ansN s t) ∧ Below w.heap.size w w' := by
  have HP := Lib.hid (fun W (hb : Below w.heap.size w W) => putAns v v' s t W B (h.below hb hB) (h'.below hb hB) (Nat.le_trans hB hb.size))
  obtain ⟨va, vn, rfl, -, -⟩ := h
  obtain ⟨ua, un, rfl, -, -⟩ := h'
  have HK0 := Lib.hid (show K22 w #[.int .i64 s.start, va, vn] #[.int .i64 t.start, ua, un] (((w.alloc (.cells #[.int .i64 s.start, va, vn] 30)).alloc (.cells #[.int .i64 t.start, ua, un] 30)).alloc zeroT) from Below.refl _ _)
  obtain ⟨k, hk⟩ : ∃ k, k = ansK s t := ⟨_, rfl⟩
  obtain ⟨cc, hcc⟩ : ∃ k, k = ansC s t := ⟨_, rfl⟩
  rw [← hk, ← hcc] at HP
  rw [← hk, ← hcc]
  clear hk hcc hB
  go_enter Try.func26, Try.ntmps26
  go_wp2_with fail
  refine (HP.out _ (K22.base HK0.out)).mono ?_
  rintro e w1 ⟨xa, xn, rfl, hbu, hb⟩
  have HK3 := Lib.hid (K22.step HK0.out hb)
  have HBU := Lib.hid (hbu.mono (K22.size HK0.out))
  obtain ⟨a4, m4, c4, rfl, -⟩ := hbu.acc.shape'
  obtain ⟨b4, k4, e4, rfl, -⟩ := hbu.edg.shape'
  obtain ⟨r0, r1, r2, s0, s1, s2⟩ := K22.cells HK3.out
  have hl := K22.size HK3.out
  clear hb hbu HK0 HP
  go_wp2
  obtain ⟨g0, g1, g2⟩ := put3_cells (a := .int .i64 k) (b := .slice a4 m4 c4) (c := .slice b4 k4 e4) (K22.res HK3.out)
  refine bodyPost_ret (v := .tuple #[.agg #[.int .i64 k, .slice a4 m4 c4, .slice b4 k4 e4], .int .i64 cc]) (by simp [results, Try.results26, go_sem, g0, g1, g2]) rfl ⟨_, _, rfl, BuiltT.mono (BuiltT.put3 HBU.out (by omega)) (by omega), put3_below (K22.base HK3.out) (by omega)⟩

set_option maxHeartbeats 2000000 in
theorem specNo (v v' : Value) (s t : T) (w : World) (B : Nat) (h : TrAt w B v s) (h' : TrAt w B v' t) (hB : B ≤ w.heap.size) (hno : okT s = false ∨ okT t = false) :
    Calls Try.prog 25 #[v, v'] w fun e w' => e = .returned (.tuple #[.agg #[.int .i64 0, .slice none 0 0, .slice none 0 0], .int .i64 1]) ∧ Below w.heap.size w w' := by
  obtain ⟨va, vn, rfl, hacc, hed⟩ := h
  obtain ⟨ua, un, rfl, gacc, ged⟩ := h'
  obtain ⟨c, hc⟩ : ∃ c : Array Value, c = #[.int .i64 s.start, va, vn] := ⟨_, rfl⟩
  obtain ⟨d, hd⟩ : ∃ d : Array Value, d = #[.int .i64 t.start, ua, un] := ⟨_, rfl⟩
  have hk0 : K22 w c d (((w.alloc (.cells c 30)).alloc (.cells d 30)).alloc zeroT) := Below.refl _ _
  have HV1 := Lib.hid (specOk s va vn w.heap.size _ B ⟨by rw [hc] at hk0 ⊢; exact ⟨(K22.box1 hk0).1, (K22.box1 hk0).2.1, (K22.box1 hk0).2.2, by have := K22.size hk0; omega⟩, hacc.below (K22.base hk0) hB, hed.below (K22.base hk0) hB⟩)
  have HV2 := Lib.hid (specOk t ua un (w.heap.size + 1) _ B ⟨by rw [hd] at hk0 ⊢; exact ⟨(K22.box2 hk0).1, (K22.box2 hk0).2.1, (K22.box2 hk0).2.2, by have := K22.size hk0; omega⟩, gacc.below (K22.base hk0) hB, ged.below (K22.base hk0) hB⟩)
  have HK0 := Lib.hid hk0
  clear hk0 hacc hed gacc ged hB
  cases hok : okT s with
  | false =>
    rw [hok] at HV1
    clear hno hok HV2
    go_enter Try.func25, Try.ntmps25
    go_wp2_with fail
    rw [← hc, ← hd]
    generalize hW : ((w.alloc (.cells c 30)).alloc (.cells d 30)).alloc (.cells #[Value.int .i64 0, .slice none 0 0, .slice none 0 0] 30) = W at HK0 HV1 ⊢
    clear hW hc hd
    refine HV1.out.mono ?_
    rintro e w1 ⟨rfl, rfl⟩
    obtain ⟨r0, r1, r2, s0, s1, s2⟩ := K22.cells HK0.out
    have hl := K22.size HK0.out
    clear HV1
    go_wp2
    obtain ⟨g0, g1, g2⟩ := put3_cells (a := .int .i64 0) (b := .slice none 0 0) (c := .slice none 0 0) (K22.res HK0.out)
    exact bodyPost_ret (v := .tuple #[.agg #[.int .i64 0, .slice none 0 0, .slice none 0 0], .int .i64 1]) (by simp [results, Try.results25, go_sem, g0, g1, g2]) rfl ⟨rfl, put3_below (K22.base HK0.out) (by omega)⟩
  | true =>
    have hok' : okT t = false := by rcases hno with h | h; (rw [hok] at h; cases h); exact h
    rw [hok] at HV1
    rw [hok'] at HV2
    clear hno hok hok'
    go_enter Try.func25, Try.ntmps25
    go_wp2_with fail
    rw [← hc, ← hd]
    generalize hW : ((w.alloc (.cells c 30)).alloc (.cells d 30)).alloc (.cells #[Value.int .i64 0, .slice none 0 0, .slice none 0 0] 30) = W at HK0 HV1 HV2 ⊢
    clear hW hc hd
    refine HV1.out.mono ?_
    rintro e w1 ⟨rfl, rfl⟩
    go_wp2_with fail
    refine HV2.out.mono ?_
    rintro e w1 ⟨rfl, rfl⟩
    obtain ⟨r0, r1, r2, s0, s1, s2⟩ := K22.cells HK0.out
    have hl := K22.size HK0.out
    clear HV1 HV2
    go_wp2
    obtain ⟨g0, g1, g2⟩ := put3_cells (a := .int .i64 0) (b := .slice none 0 0) (c := .slice none 0 0) (K22.res HK0.out)
    exact bodyPost_ret (v := .tuple #[.agg #[.int .i64 0, .slice none 0 0, .slice none 0 0], .int .i64 1]) (by simp [results, Try.results25, go_sem, g0, g1, g2]) rfl ⟨rfl, put3_below (K22.base HK0.out) (by omega)⟩

theorem specAns (v v' : Value) (s t : T) (w : World) (B : Nat) (h : TrAt w B v s) (h' : TrAt w B v' t) (hB : B ≤ w.heap.size) :
    Calls Try.prog 25 #[v, v'] w fun e w' => ∃ va vn, e = .returned (.tuple #[.agg #[.int .i64 (ansK s t), va, vn], .int .i64 (ansC s t)]) ∧ BuiltT w' w.heap.size va vn (ansA s t) (ansN s t) ∧ Below w.heap.size w w' := by
  by_cases hno : okT s = false ∨ okT t = false
  · obtain ⟨e1, e2, e3, e4⟩ := ans_no hno
    rw [e1, e2, e3, e4]
    refine (specNo v v' s t w B h h' hB hno).mono ?_
    rintro e w' ⟨rfl, hb⟩
    exact ⟨_, _, rfl, none_built _ _, hb⟩
  · have h1 : okT s = true := by cases hs : okT s; (exact absurd (.inl hs) hno); rfl
    have h2 : okT t = true := by cases hs : okT t; (exact absurd (.inr hs) hno); rfl
    refine (eitSpec v v' s t w B h h' hB h1 h2).mono ?_
    rintro e w' ⟨hb, ⟨hf, va, vn, rfl, hbu⟩ | ⟨hf, rfl⟩⟩
    · obtain ⟨e1, e2, e3, e4⟩ := ans_yes h1 h2 hf
      rw [e1, e2, e3, e4]
      exact ⟨_, _, rfl, hbu, hb⟩
    · obtain ⟨e1, e2, e3, e4⟩ := ans_lim h1 h2 hf
      rw [e1, e2, e3, e4]
      exact ⟨_, _, rfl, none_built _ _, hb⟩
end Go.Proofs.Ytjoiaenkmmmmpaa.PutEit
