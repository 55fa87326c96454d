
/- What the program's function that makes the automaton of pairs of states hands back.
   Conditions: stated at each theorem. -/
import Derived.Test.YtaimealknkhfbaaDoorRB28
import Derived.Deep.RegionLaw
import Derived.Deep.RegionHeld3
import Derived.Deep.DrawnRows
import Derived.Test.YtaimealknkhfbaaDoorRB22
import Derived.Test.YtaimealknkhfbaaDoorRB26
namespace Go.Proofs.YtaimealknkhfbaaDoor.PairsI
set_option linter.unusedVariables false
set_option linter.unusedSimpArgs false
set_option maxRecDepth 100000
open Go.RowKit Mem Copy Rel Valid Heap Columns Bld TidyMath TidyAuto TidyRight SpecFiner SpecRight PairMath

/-- Two boxes, the result's block, and what is made behind them. -/
abbrev K3 (w : World) (c d : Array Value) (W : World) : Prop := Below (w.heap.size + 3) (((w.alloc (.cells c 27)).alloc (.cells d 27)).alloc (.cells #[Value.int .i64 0, .int .i64 0, .slice none 0 0, .slice none 0 0] 27)) W
theorem K3.size3 (w : World) (c d : Array Value) : (((w.alloc (.cells c 27)).alloc (.cells d 27)).alloc (.cells #[Value.int .i64 0, .int .i64 0, .slice none 0 0, .slice none 0 0] 27)).heap.size = w.heap.size + 3 := by rw [size_alloc', size_alloc', size_alloc']
theorem K3.size {w W : World} {c d : Array Value} (h : K3 w c d W) : w.heap.size + 3 ≤ W.heap.size := by have := Below.size h; rw [K3.size3] at this; exact this
theorem K3.base {w W : World} {c d : Array Value} (h : K3 w c d W) : Below w.heap.size w W :=
  (base_box (base_box (base_box (Below.refl _ w) _) _) _).trans (Below.mono h (by omega))
theorem K3.box1 {w W : World} {c d : Array Value} (h : K3 w c d W) : W.heap[w.heap.size]? = some (.cells c 27 (0, 0)) := by
  rw [Below.block h _ (by omega), Below.heap_alloc _ _ _ (by rw [size_alloc', size_alloc']; omega), Below.heap_alloc _ _ _ (by rw [size_alloc']; omega)]; exact heap_alloc_new _ _
theorem K3.box2 {w W : World} {c d : Array Value} (h : K3 w c d W) : W.heap[w.heap.size + 1]? = some (.cells d 27 (0, 0)) := by
  rw [Below.block h _ (by omega), Below.heap_alloc _ _ _ (by rw [size_alloc', size_alloc']; omega)]
  have := heap_alloc_new (w.alloc (.cells c 27)) (.cells d 27)
  rwa [size_alloc'] at this
theorem K3.res {w W : World} {c d : Array Value} (h : K3 w c d W) : W.heap[w.heap.size + 2]? = some (.cells #[Value.int .i64 0, .int .i64 0, .slice none 0 0, .slice none 0 0] 27 (0, 0)) := by
  rw [Below.block h _ (by omega)]
  have := heap_alloc_new ((w.alloc (.cells c 27)).alloc (.cells d 27)) (.cells #[Value.int .i64 0, .int .i64 0, .slice none 0 0, .slice none 0 0] 27)
  rwa [size_alloc', size_alloc'] at this

theorem rel_row (l : L) (p : Nat) : (relOf l).next.getD p [] = ofN (l.nx.getD p []) := by
  unfold relOf
  simp only [List.getD, List.getElem?_map]
  cases l.nx[p]? <;> rfl
theorem ofN_len (x : List Nat) : (ofN x).length = x.length := by simp [ofN]
theorem ofN_get (x : List Nat) (c : Nat) : (ofN x).getD c 0 = ((x.getD c 0 : Nat) : Int) := by
  unfold ofN
  simp only [List.getD, List.getElem?_map]
  cases x[c]? <;> rfl
/-- A relation in memory, cell by cell, whatever is made later. -/
theorem laid {w : World} {B : Nat} {v : Value} {l : L} (hl : l.Ok) (h : RelAt w B v (relOf l)) (hB : B ≤ w.heap.size) :
    ∃ (ba oa ca bb ob cb : Nat) (V : Nat → Value), v = .agg #[.int .i64 l.k, .int .i64 l.start, .slice (some ⟨ba, oa, none⟩) l.acc.length ca, .slice (some ⟨bb, ob, none⟩) l.acc.length cb] ∧ ba < w.heap.size ∧ bb < w.heap.size ∧
      (∀ W, Below w.heap.size w W → ∀ p, p < l.acc.length → W.cell? ⟨ba, oa + p, none⟩ = some (.bool (l.acc.getD p false)) ∧ W.cell? ⟨bb, ob + p, none⟩ = some (V p)) ∧
      ∀ p, p < l.acc.length → ∃ br or' cr, V p = .slice (some ⟨br, or', none⟩) (wide l.k) cr ∧ br < w.heap.size ∧ ∀ W, Below w.heap.size w W → ∀ c, c < wide l.k → W.cell? ⟨br, or' + c, none⟩ = some (.int .i64 ((l.nx.getD p []).getD c 0 : Nat)) := by
  have hl0 : 0 < l.acc.length := Nat.lt_of_le_of_lt (Nat.zero_le _) hl.st
  obtain ⟨va, vn, rfl, ha, hx⟩ := h
  obtain ⟨aa, ba, oa, ca, rfl, hma, haa, hca⟩ := ha
  obtain ⟨rfl, hba⟩ := haa hl0
  obtain ⟨V, hsl, hrows⟩ := hx
  obtain ⟨ab, bb, ob, cb, rfl, hmb, hab, hcb⟩ := hsl
  have hnl : (relOf l).next.length = l.acc.length := by show (l.nx.map ofN).length = _; rw [List.length_map]; exact hl.len
  rw [hnl] at hab hcb hrows ⊢
  obtain ⟨rfl, hbb⟩ := hab hl0
  refine ⟨ba, oa, ca, bb, ob, cb, V, rfl, by omega, by omega, fun W hW p hp => ⟨(hW.cell (p := ⟨ba, oa + p, none⟩) (show ba < w.heap.size by omega)).trans (hca p hp), (hW.cell (p := ⟨bb, ob + p, none⟩) (show bb < w.heap.size by omega)).trans (hcb p hp)⟩, fun p hp => ?_⟩
  have hr := hrows p hp
  rw [rel_row] at hr
  obtain ⟨ar, br, or', cr, hv, -, hra, hrc⟩ := hr
  have hlen : (ofN (l.nx.getD p [])).length = wide l.k := by rw [ofN_len]; exact hl.row p hp
  have hw := wide_cases hl.k0 hl.k3
  rw [hlen] at hv hra hrc
  obtain ⟨rfl, hbr⟩ := hra (by omega)
  refine ⟨br, or', cr, hv, by omega, fun W hW c hc => ?_⟩
  rw [hW.cell (p := ⟨br, or' + c, none⟩) (show br < w.heap.size by omega), hrc c hc]
  show some (Value.int .i64 ((ofN (l.nx.getD p [])).getD c 0)) = _
  rw [ofN_get]

set_option maxHeartbeats 16000000 in
theorem pairsI (t : Bool → Bool → Bool) (l m : L) (hl : l.Ok) (hm : m.Ok) (hk : l.k = m.k) (v u : Value) (fid : FuncId)
    (hcf : ∀ (args : Array Value) (W : World), (callFunc fid args).run Tryd.prog W = .ok (.enter fid args) W)
    (hT : ∀ a b W, Calls Tryd.prog fid #[.bool a, .bool b] W fun e w' => e = .returned (.bool (t a b)) ∧ W = w')
    (w : World) (B : Nat) (h : RelAt w B v (relOf l)) (h' : RelAt w B u (relOf m)) (hB : B ≤ w.heap.size) (hnm : l.acc.length * m.acc.length ≤ 1000) :
    Calls Tryd.prog 58 #[v, u, .func (.func fid) #[] #[]] w fun e w' => ∃ va vn, e = .returned (.agg #[.int .i64 (pairL t l m).k, .int .i64 (pairL t l m).start, va, vn]) ∧ Built w' w.heap.size va vn (pairL t l m).acc (relOf (pairL t l m)).next ∧ Below w.heap.size w w' := by
  have hl0 : 0 < l.acc.length := Nat.lt_of_le_of_lt (Nat.zero_le _) hl.st
  have hm0 : 0 < m.acc.length := Nat.lt_of_le_of_lt (Nat.zero_le _) hm.st
  obtain ⟨hs1, hs2⟩ := sides hl0 hm0 hnm
  obtain ⟨ba, oa, ca, bb, ob, cb, V, rfl, hba, hbb, hcell, hrowV⟩ := laid hl h hB
  obtain ⟨bc, oc, cc, bd, od, cd, U, rfl, hbc, hbd, hcell', hrowU⟩ := laid hm h' hB
  rw [← hk] at hrowU
  have hw26 : 0 < wide l.k ∧ wide l.k ≤ 26 := by have := wide_cases hl.k0 hl.k3; omega
  have HC1 := Lib.hid hcell
  have HC2 := Lib.hid hcell'
  have HV := Lib.hid hrowV
  have HU := Lib.hid hrowU
  have HTT := Lib.hid hT
  have HLL := Lib.hid (fun p (hp : p < l.acc.length) c (hc : c < wide l.k) => hl.lt p hp c hc)
  have HLM := Lib.hid (fun q (hq : q < m.acc.length) c (hc : c < wide l.k) => hm.lt q hq c (by rw [← hk]; exact hc))
  have HAT := Lib.hid (fun p q hp hq => acc_next t l m (p := p) (q := q) hp hq)
  have HNT := Lib.hid (fun p q hp hq => next_next t l m (p := p) (q := q) hp hq)
  have HALL := Lib.hid (show (pairL t l m).acc.take (l.acc.length * m.acc.length) = (pairL t l m).acc from List.take_of_length_le (by rw [pairL_len]; exact Nat.le_refl _))
  have HNLL := Lib.hid (show (relOf (pairL t l m)).next.take (l.acc.length * m.acc.length) = (relOf (pairL t l m)).next from List.take_of_length_le (by rw [rel_next_len]; exact Nat.le_refl _))
  have HALn := Lib.hid (show (pairL t l m).acc.length ≤ 1000 by rw [pairL_len]; exact hnm)
  have HNLn := Lib.hid (show (relOf (pairL t l m)).next.length ≤ 1000 by rw [rel_next_len]; exact hnm)
  have hP := mul_le_pair hl.st hm.st hnm
  have HSTP := Lib.hid (show (pairL t l m).start = l.start * m.acc.length + m.start from rfl)
  have HKP := Lib.hid (show (pairL t l m).k = l.k from rfl)
  have HML := Lib.hid (fun (x y : Nat) (hx : x < l.acc.length) (hy : y < m.acc.length) => mul_le_pair hx hy hnm)
  have HRP := Lib.hid (fun p q => show rowPQ l m p q = (List.range (wide l.k)).map fun c => (((l.nx.getD p []).getD c 0 * m.acc.length + (m.nx.getD q []).getD c 0 : Nat) : Int) from rfl)
  obtain ⟨AC, hAC⟩ : ∃ AC, AC = (pairL t l m).acc := ⟨_, rfl⟩
  obtain ⟨NX, hNX⟩ : ∃ NX, NX = (relOf (pairL t l m)).next := ⟨_, rfl⟩
  obtain ⟨KP, hKP⟩ : ∃ KP, KP = (pairL t l m).k := ⟨_, rfl⟩
  obtain ⟨SP, hSP⟩ : ∃ SP, SP = (pairL t l m).start := ⟨_, rfl⟩
  obtain ⟨n1, hn1⟩ : ∃ n, n = l.acc.length := ⟨_, rfl⟩
  obtain ⟨n2, hn2⟩ : ∃ n, n = m.acc.length := ⟨_, rfl⟩
  obtain ⟨wd, hwd⟩ : ∃ n, n = wide l.k := ⟨_, rfl⟩
  obtain ⟨k, hkk⟩ : ∃ n, n = l.k := ⟨_, rfl⟩
  obtain ⟨k2, hkk2⟩ : ∃ n, n = m.k := ⟨_, rfl⟩
  obtain ⟨st, hst⟩ : ∃ n, n = l.start := ⟨_, rfl⟩
  obtain ⟨st2, hst2⟩ : ∃ n, n = m.start := ⟨_, rfl⟩
  obtain ⟨fa, hfa⟩ : ∃ f : Nat → Bool, f = fun p => l.acc.getD p false := ⟨_, rfl⟩
  obtain ⟨fb, hfb⟩ : ∃ f : Nat → Bool, f = fun p => m.acc.getD p false := ⟨_, rfl⟩
  obtain ⟨fx, hfx⟩ : ∃ f : Nat → Nat → Nat, f = fun p c => (l.nx.getD p []).getD c 0 := ⟨_, rfl⟩
  obtain ⟨fy, hfy⟩ : ∃ f : Nat → Nat → Nat, f = fun p c => (m.nx.getD p []).getD c 0 := ⟨_, rfl⟩
  have HC1 := Lib.hid (show ∀ W, Below w.heap.size w W → ∀ p, p < n1 → W.cell? ⟨ba, oa + p, none⟩ = some (.bool (fa p)) ∧ W.cell? ⟨bb, ob + p, none⟩ = some (V p) from by rw [hn1, hfa]; exact HC1.out)
  have HC2 := Lib.hid (show ∀ W, Below w.heap.size w W → ∀ p, p < n2 → W.cell? ⟨bc, oc + p, none⟩ = some (.bool (fb p)) ∧ W.cell? ⟨bd, od + p, none⟩ = some (U p) from by rw [hn2, hfb]; exact HC2.out)
  have HV := Lib.hid (show ∀ p, p < n1 → ∃ br or' cr, V p = .slice (some ⟨br, or', none⟩) wd cr ∧ br < w.heap.size ∧ ∀ W, Below w.heap.size w W → ∀ c, c < wd → W.cell? ⟨br, or' + c, none⟩ = some (.int .i64 (fx p c : Nat)) from by rw [hn1, hwd, hfx]; exact HV.out)
  have HU := Lib.hid (show ∀ p, p < n2 → ∃ br or' cr, U p = .slice (some ⟨br, or', none⟩) wd cr ∧ br < w.heap.size ∧ ∀ W, Below w.heap.size w W → ∀ c, c < wd → W.cell? ⟨br, or' + c, none⟩ = some (.int .i64 (fy p c : Nat)) from by rw [hn2, hwd, hfy]; exact HU.out)
  have HLL := Lib.hid (show ∀ p, p < n1 → ∀ c, c < wd → fx p c < n1 from by rw [hn1, hwd, hfx]; exact HLL.out)
  have HLM := Lib.hid (show ∀ p, p < n2 → ∀ c, c < wd → fy p c < n2 from by rw [hn2, hwd, hfy]; exact HLM.out)
  have HAT := Lib.hid (show ∀ p q, p < n1 → q < n2 → AC.take (p * n2 + q + 1) = AC.take (p * n2 + q) ++ [t (fa p) (fb q)] from by rw [hn1, hn2, hAC, hfa, hfb]; exact HAT.out)
  have HNT := Lib.hid (show ∀ p q, p < n1 → q < n2 → NX.take (p * n2 + q + 1) = NX.take (p * n2 + q) ++ [rowPQ l m p q] from by rw [hn1, hn2, hNX]; exact HNT.out)
  have HRP := Lib.hid (show ∀ p q, (rowPQ l m p q).map (Value.int .i64) = tv wd fun c => ((fx p c * n2 + fy q c : Nat) : Int) from fun p q => by rw [hn2, hwd, hfx, hfy, HRP.out p q]; unfold tv; rw [List.map_map]; rfl)
  have HML := Lib.hid (show ∀ x y : Nat, x < n1 → y < n2 → x * n2 ≤ 1000 ∧ x * n2 + y ≤ 1000 from by rw [hn1, hn2]; exact HML.out)
  have HALL := Lib.hid (show AC.take (n1 * n2) = AC from by rw [hn1, hn2, hAC]; exact HALL.out)
  have HNLL := Lib.hid (show NX.take (n1 * n2) = NX from by rw [hn1, hn2, hNX]; exact HNLL.out)
  have HALn := Lib.hid (show AC.length ≤ 1000 from by rw [hAC]; exact HALn.out)
  have HNLn := Lib.hid (show NX.length ≤ 1000 from by rw [hNX]; exact HNLn.out)
  obtain ⟨P0, hP0⟩ : ∃ P0, P0 = st * n2 := ⟨_, rfl⟩
  have hmulS : (st : Int) * (n2 : Int) = (P0 : Int) := by rw [hP0]; exact (Int.natCast_mul st n2).symm
  have hP0a : P0 ≤ 1000 := by rw [hP0, hst, hn2]; exact hP.1
  have hP0b : P0 + st2 ≤ 1000 := by rw [hP0, hst, hn2, hst2]; exact hP.2
  have HSP := Lib.hid (show (SP : Int) = (P0 : Int) + st2 from by rw [hSP, HSTP.out, hP0, hst, hn2, hst2]; exact Int.natCast_add _ _)
  have HKP := Lib.hid (show (KP : Int) = (k : Int) from by rw [hKP, HKP.out, hkk])
  rw [← hn1] at hl0 hs1
  rw [← hn2] at hm0 hs2
  rw [← hwd] at hw26
  rw [← hAC, ← hNX, ← hKP, ← hSP, ← hn1, ← hn2, ← hkk, ← hkk2, ← hst, ← hst2]
  have hst01 : st ≤ 1000 := by have : st < n1 := by rw [hst, hn1]; exact hl.st
                               omega
  clear hAC hNX hKP hSP hn1 hn2 hwd hkk hkk2 hst hst2 hfa hfb hfx hfy hP0 hP hcell hcell' hrowV hrowU hT hk hl hm h h' hnm
  have HD0 := Lib.hid (show Bld ((((w.alloc (.cells #[.int .i64 k, .int .i64 st, .slice (some ⟨ba, oa, none⟩) n1 ca, .slice (some ⟨bb, ob, none⟩) n1 cb] 27)).alloc (.cells #[.int .i64 k2, .int .i64 st2, .slice (some ⟨bc, oc, none⟩) n2 cc, .slice (some ⟨bd, od, none⟩) n2 cd] 27)).alloc (.cells #[Value.int .i64 0, .int .i64 0, .slice none 0 0, .slice none 0 0] 27)).alloc (.cells #[.int .i64 k, .int .i64 ((P0 : Int) + st2), .slice none 0 0, .slice none 0 0] 27)) (w.heap.size + 3) (w.heap.size + 3) k ((P0 : Int) + st2) (.slice none 0 0) (.slice none 0 0) [] [] ((AC.take (0 * n2)).map Value.bool) from by
    rw [Nat.zero_mul]
    refine ⟨Own.nil _ _ _, Lst.nil _ _ _, Lst.nil _ _ _, ?_, Nat.le_refl _⟩
    rw [← K3.size3 w #[.int .i64 k, .int .i64 st, .slice (some ⟨ba, oa, none⟩) n1 ca, .slice (some ⟨bb, ob, none⟩) n1 cb] #[.int .i64 k2, .int .i64 st2, .slice (some ⟨bc, oc, none⟩) n2 cc, .slice (some ⟨bd, od, none⟩) n2 cd]]
    exact heap_alloc_new _ _)
  have HK0 := Lib.hid (show K3 w #[.int .i64 k, .int .i64 st, .slice (some ⟨ba, oa, none⟩) n1 ca, .slice (some ⟨bb, ob, none⟩) n1 cb] #[.int .i64 k2, .int .i64 st2, .slice (some ⟨bc, oc, none⟩) n2 cc, .slice (some ⟨bd, od, none⟩) n2 cd] ((((w.alloc (.cells #[.int .i64 k, .int .i64 st, .slice (some ⟨ba, oa, none⟩) n1 ca, .slice (some ⟨bb, ob, none⟩) n1 cb] 27)).alloc (.cells #[.int .i64 k2, .int .i64 st2, .slice (some ⟨bc, oc, none⟩) n2 cc, .slice (some ⟨bd, od, none⟩) n2 cd] 27)).alloc (.cells #[Value.int .i64 0, .int .i64 0, .slice none 0 0, .slice none 0 0] 27)).alloc (.cells #[.int .i64 k, .int .i64 ((P0 : Int) + st2), .slice none 0 0, .slice none 0 0] 27)) from (Below.refl _ _).alloc (by rw [K3.size3]; exact Nat.le_refl _) _)
  have hmk := run_make_row' (P := Tryd.prog) 52 2 (.int .i64 0) 8 Tryd.underlying52 info2 rfl .i64 .i64 wd (by omega) (by omega)
  go_enter Tryd.func58, Tryd.ntmps58
  go_wp2_with fail
  clear hmulS hP0a hP0b
  go_loopw [9, 10, 11, 12, 13, 14, 31, 39, 49] (fun _ _ _ _ _ _ s31 _ _ wr => ∃ (p : Nat) (va vn : Value) (items : List (Value × List Value)), p ≤ n1 ∧ s31 = .int .i64 p ∧ Bld wr (w.heap.size + 3) (w.heap.size + 3) k ((P0 : Int) + st2) va vn [] items ((AC.take (p * n2)).map Value.bool) ∧ items.map Prod.snd = (NX.take (p * n2)).map (fun x => x.map (Value.int .i64)) ∧ K3 w #[.int .i64 k, .int .i64 st, .slice (some ⟨ba, oa, none⟩) n1 ca, .slice (some ⟨bb, ob, none⟩) n1 cb] #[.int .i64 k2, .int .i64 st2, .slice (some ⟨bc, oc, none⟩) n2 cc, .slice (some ⟨bd, od, none⟩) n2 cd] wr) (fun _ _ _ _ _ _ s31 _ _ _ => n1 - (intOf s31).toNat)
  case atStart => exact ⟨0, _, _, [], Nat.zero_le _, rfl, HD0.out, by rw [Nat.zero_mul]; rfl, HK0.out⟩
  case round =>
    obtain ⟨p, va, vn, items, hp, rfl, hd, hi, hk⟩ := hrel
    have HD := Lib.hid hd
    have HI := Lib.hid hi
    have HK := Lib.hid hk
    clear hd hi HD0 HK0
    by_cases hlp : p < n1
    · have cV := (HC1.out _ (K3.base hk) p hlp).2
      obtain ⟨br, or', cr, hv, hbr, hrc⟩ := HV.out p hlp
      rw [hv] at cV
      have HX := Lib.hid hrc
      have hbx := K3.box2 hk
      have y3 := cells_get hbx 3
      simp at y3
      have hp0 : (0 : Int) ≤ (p : Int) := Int.natCast_nonneg _
      have hp1 : (p : Int) < (n1 : Int) := by omega
      have hHD1 := Lib.hid (show Bld wr (w.heap.size + 3) (w.heap.size + 3) k ((P0 : Int) + st2) va vn [] items ((AC.take (p * n2 + 0)).map Value.bool) from HD.out)
      clear hv hrc hbx hk HD
      go_wp2_with fail
      go_loopw [11, 12, 13, 14, 39, 49] (fun _ _ _ _ s39 _ wr2 => ∃ (q : Nat) (va vn : Value) (items : List (Value × List Value)), q ≤ n2 ∧ s39 = .int .i64 q ∧ Bld wr2 (w.heap.size + 3) (w.heap.size + 3) k ((P0 : Int) + st2) va vn [] items ((AC.take (p * n2 + q)).map Value.bool) ∧ items.map Prod.snd = (NX.take (p * n2 + q)).map (fun x => x.map (Value.int .i64)) ∧ K3 w #[.int .i64 k, .int .i64 st, .slice (some ⟨ba, oa, none⟩) n1 ca, .slice (some ⟨bb, ob, none⟩) n1 cb] #[.int .i64 k2, .int .i64 st2, .slice (some ⟨bc, oc, none⟩) n2 cc, .slice (some ⟨bd, od, none⟩) n2 cd] wr2) (fun _ _ _ _ s39 _ _ => n2 - (intOf s39).toNat)
      case atStart => exact ⟨0, va, vn, items, Nat.zero_le _, rfl, hHD1.out, HI.out, HK.out⟩
      case round =>
        obtain ⟨q, va, vn, items, hq, rfl, hd, hi, hk⟩ := hrel
        have HD := Lib.hid hd
        have HI := Lib.hid hi
        have HK := Lib.hid hk
        clear hd hi hHD1 cV y3
        by_cases hlq : q < n2
        · have cU := (HC2.out _ (K3.base hk) q hlq).2
          obtain ⟨bs, os, cs, hv, hbs, hsc⟩ := HU.out q hlq
          rw [hv] at cU
          have HY := Lib.hid hsc
          have hq0 : (0 : Int) ≤ (q : Int) := Int.natCast_nonneg _
          have hq1 : (q : Int) < (n2 : Int) := by omega
          obtain ⟨g, hg⟩ : ∃ g, g = wr.heap.size := ⟨_, rfl⟩
          have HGS := Lib.hid (show w.heap.size + 3 ≤ g from by rw [hg]; exact K3.size hk)
          obtain ⟨PQ, hPQ⟩ : ∃ PQ : Nat → Int, PQ = fun c => ((fx p c * n2 + fy q c : Nat) : Int) := ⟨_, rfl⟩
          have HPQ := Lib.hid hPQ
          have HA1 := Lib.hid (show Bld (wr.alloc (.cells (madeCells #[Value.int .i64 0] wd) 2)) (w.heap.size + 3) (w.heap.size + 3) k ((P0 : Int) + st2) va vn [(.slice (some ⟨g, 0, none⟩) wd wd, tv wd fun c => if c < 0 then PQ c else 0)] items ((AC.take (p * n2 + q)).map Value.bool) from by
            have h1 := Lst.made wr (w.heap.size + 3) 2 (.int .i64 0) wd (K3.size hk) (by unfold maxLen; omega)
            rw [tv_rep] at h1
            rw [hg]
            exact HD.out.addInt ((Below.refl _ _).alloc (Nat.le_refl _) _) h1 (fun x hx => by cases hx; exact Nat.le_refl _))
          have HB1 := Lib.hid (show K3 w #[.int .i64 k, .int .i64 st, .slice (some ⟨ba, oa, none⟩) n1 ca, .slice (some ⟨bb, ob, none⟩) n1 cb] #[.int .i64 k2, .int .i64 st2, .slice (some ⟨bc, oc, none⟩) n2 cc, .slice (some ⟨bd, od, none⟩) n2 cd] (wr.alloc (.cells (madeCells #[Value.int .i64 0] wd) 2)) from Below.alloc hk (K3.size hk) _)
          clear hv hsc hPQ hk
          go_wp2_with fail
          rw [← hg]
          clear hg
          go_loopw [14, 49] (fun _ s49 wr3 => ∃ c : Nat, c ≤ wd ∧ s49 = .int .i64 c ∧ Bld wr3 (w.heap.size + 3) (w.heap.size + 3) k ((P0 : Int) + st2) va vn [(.slice (some ⟨g, 0, none⟩) wd wd, tv wd fun j => if j < c then PQ j else 0)] items ((AC.take (p * n2 + q)).map Value.bool) ∧ K3 w #[.int .i64 k, .int .i64 st, .slice (some ⟨ba, oa, none⟩) n1 ca, .slice (some ⟨bb, ob, none⟩) n1 cb] #[.int .i64 k2, .int .i64 st2, .slice (some ⟨bc, oc, none⟩) n2 cc, .slice (some ⟨bd, od, none⟩) n2 cd] wr3) (fun _ s49 _ => wd - (intOf s49).toNat)
          case atStart => exact ⟨0, Nat.zero_le _, rfl, HA1.out, HB1.out⟩
          case round =>
            obtain ⟨c, hc, rfl, hd, hk⟩ := hrel
            have HD2 := Lib.hid hd
            have HK2 := Lib.hid hk
            clear hd HA1 HB1 cU
            by_cases hlc : c < wd
            · have cx := HX.out _ (K3.base hk) c hlc
              have cy := HY.out _ (K3.base hk) c hlc
              obtain ⟨x, hx⟩ : ∃ x, x = fx p c := ⟨_, rfl⟩
              obtain ⟨y, hy⟩ : ∃ y, y = fy q c := ⟨_, rfl⟩
              have hxn : x < n1 := by rw [hx]; exact HLL.out p hlp c hlc
              have hyn : y < n2 := by rw [hy]; exact HLM.out q hlq c hlc
              obtain ⟨hP1, hP2⟩ := HML.out x y hxn hyn
              obtain ⟨P, hP⟩ : ∃ P, P = x * n2 := ⟨_, rfl⟩
              have hmul : (x : Int) * (n2 : Int) = (P : Int) := by rw [hP]; exact (Int.natCast_mul x n2).symm
              rw [← hP] at hP1 hP2
              have HPV := Lib.hid (show PQ c = (P : Int) + (y : Int) from by rw [HPQ.out, hP, hx, hy]; exact Int.natCast_add _ _)
              rw [← hx] at cx
              rw [← hy] at cy
              have c9 := (Own.get [] _ HD2.out.own).cellOf (i := c) (by rw [tv_length]; exact hlc)
              have f9 := (Own.get [] _ HD2.out.own).free c
              rw [tv_get, if_neg (Nat.lt_irrefl c)] at c9
              have hgl := (Own.get [] _ HD2.out.own).lt (k := g) rfl
              have hc0 : (0 : Int) ≤ (c : Int) := Int.natCast_nonneg _
              have hc1 : (c : Int) < (wd : Int) := by omega
              have HSET := Lib.hid (show Bld (wr.drew.setCell ⟨g, c, none⟩ (.int .i64 ((P : Int) + (y : Int)))) (w.heap.size + 3) (w.heap.size + 3) k ((P0 : Int) + st2) va vn [(.slice (some ⟨g, 0, none⟩) wd wd, tv wd fun j => if j < c + 1 then PQ j else 0)] items ((AC.take (p * n2 + q)).map Value.bool) from by
                have h1 := Bld.setInt [] [] (i := c) HD2.out.drew (by rw [tv_length]; exact hlc) (.int .i64 ((P : Int) + (y : Int)))
                rw [tv_set, ← HPV.out] at h1
                rw [← HPV.out, show (fun j => if j < c + 1 then PQ j else 0) = (fun j => if j = c then PQ c else if j < c then PQ j else 0) from funext fun j => by
                  by_cases e : j = c
                  · subst e; simp
                  · have : (j < c + 1) = (j < c) := by apply propext; constructor <;> intro h <;> omega
                    simp only [if_neg e, this]]
                exact h1)
              have HKS := Lib.hid (show K3 w #[.int .i64 k, .int .i64 st, .slice (some ⟨ba, oa, none⟩) n1 ca, .slice (some ⟨bb, ob, none⟩) n1 cb] #[.int .i64 k2, .int .i64 st2, .slice (some ⟨bc, oc, none⟩) n2 cc, .slice (some ⟨bd, od, none⟩) n2 cd] (wr.drew.setCell ⟨g, c, none⟩ (.int .i64 ((P : Int) + (y : Int)))) from (Below.drew HK2.out).setCell (p := ⟨g, c, none⟩) HGS.out _)
              clear hx hy hP hk
              go_wp2_with fail
              go_region
              all_goals
                go_wp2_with fail
                go_roundw
                case rel => exact ⟨c + 1, hlc, by go_num, HSET.out, HKS.out⟩
                case measure => simp [intOf]; omega
            · obtain rfl : c = wd := by omega
              have HD3 := Lib.hid (show Bld wr (w.heap.size + 3) (w.heap.size + 3) k ((P0 : Int) + st2) va vn [(.slice (some ⟨g, 0, none⟩) c c, (rowPQ l m p q).map (Value.int .i64))] items ((AC.take (p * n2 + q)).map Value.bool) from by
                rw [HRP.out p q]
                have h1 := HD2.out
                rw [tv_congr (S := fun c => ((fx p c * n2 + fy q c : Nat) : Int)) (fun i hi => by rw [if_pos hi, HPQ.out])] at h1
                exact h1)
              have x2 := HD2.out.c2
              have hlZ := HD2.out.lt
              have hszk : w.heap.size + 3 ≤ wr.heap.size := K3.size hk
              obtain ⟨a, ha⟩ : ∃ a, a = fa p := ⟨_, rfl⟩
              obtain ⟨b, hb⟩ : ∃ b, b = fb q := ⟨_, rfl⟩
              have HTV := Lib.hid (fun W => HTT.out a b W)
              have HNA := Lib.hid (HAT.out p q hlp hlq)
              rw [← ha, ← hb] at HNA
              have HALE := Lib.hid (show ((AC.take (p * n2 + q)).map Value.bool).length ≤ 100000000 by rw [List.length_map, List.length_take]; have := HALn.out; omega)
              obtain ⟨aa, na, cna, rfl, -⟩ := HD2.out.acc.shape'
              obtain ⟨tb, htb⟩ : ∃ tb, tb = t a b := ⟨_, rfl⟩
              rw [← htb] at HTV HNA
              have HDD := Lib.hid HD3.out.drew
              have HKD := Lib.hid (show K3 w #[.int .i64 k, .int .i64 st, .slice (some ⟨ba, oa, none⟩) n1 ca, .slice (some ⟨bb, ob, none⟩) n1 cb] #[.int .i64 k2, .int .i64 st2, .slice (some ⟨bc, oc, none⟩) n2 cc, .slice (some ⟨bd, od, none⟩) n2 cd] wr.drew from Below.drew HK2.out)
              have HS4 := Lib.hid (show ∀ W, K3 w #[.int .i64 k, .int .i64 st, .slice (some ⟨ba, oa, none⟩) n1 ca, .slice (some ⟨bb, ob, none⟩) n1 cb] #[.int .i64 k2, .int .i64 st2, .slice (some ⟨bc, oc, none⟩) n2 cc, .slice (some ⟨bd, od, none⟩) n2 cd] W → W.cell? ⟨w.heap.size, 2, none⟩ = some (.slice (some ⟨ba, oa, none⟩) n1 ca) ∧ W.cell? ⟨ba, oa + p, none⟩ = some (.bool a) ∧ W.cell? ⟨w.heap.size + 1, 2, none⟩ = some (.slice (some ⟨bc, oc, none⟩) n2 cc) ∧ W.cell? ⟨bc, oc + q, none⟩ = some (.bool b) from fun W hW => ⟨by have := cells_get (K3.box1 hW) 2; simp at this; exact this, by rw [ha]; exact (HC1.out W (K3.base hW) p hlp).1, by have := cells_get (K3.box2 hW) 2; simp at this; exact this, by rw [hb]; exact (HC2.out W (K3.base hW) q hlq).1⟩)
              clear ha hb hk HD2 htb
              go_upto_region 15 with fail
              go_cut [] (fun wx => ∃ va', Bld wx (w.heap.size + 3) (w.heap.size + 3) k ((P0 : Int) + st2) va' vn [(.slice (some ⟨g, 0, none⟩) c c, (rowPQ l m p q).map (Value.int .i64))] items ((AC.take (p * n2 + q)).map Value.bool ++ [.bool tb]) ∧ K3 w #[.int .i64 k, .int .i64 st, .slice (some ⟨ba, oa, none⟩) n1 ca, .slice (some ⟨bb, ob, none⟩) n1 cb] #[.int .i64 k2, .int .i64 st2, .slice (some ⟨bc, oc, none⟩) n2 cc, .slice (some ⟨bd, od, none⟩) n2 cd] wx)
              case first =>
                refine wp_region_held_drew (S := (fun w' => w'.cell? ⟨w.heap.size, 2, none⟩ = some (.slice (some ⟨ba, oa, none⟩) n1 ca) ∧ w'.cell? ⟨ba, oa + p, none⟩ = some (.bool a) ∧ w'.cell? ⟨w.heap.size + 1, 2, none⟩ = some (.slice (some ⟨bc, oc, none⟩) n2 cc) ∧ w'.cell? ⟨bc, oc + q, none⟩ = some (.bool b))) (by kernel_rfl) ?hS (fun hHeld => ?hR)
                case hS => (first | exact HS4.out _ HKD.out | exact HS4.out _ (Below.alloc HKD.out (K3.size HKD.out) _) | exact HS4.out _ HKW.out | exact HS4.out _ HK6.out)
                refine wpAnyH_take (i := 0) (v := ?v1) rfl (by kernel_rfl) (by kernel_rfl) (by kernel_rfl) (fun _ _ _ h => h) (Or.inl ⟨by rfl, ?y1⟩) (by assumption) ?r1
                case y1 => (intro W hSw; (try dsimp only at hSw); go_simp; try with_reducible rfl)
                (try simp only [Act.put, List.setIfInBounds_toArray, List.set_cons_zero, List.set_cons_succ])
                refine wpAnyH_take (i := 2) (v := ?v2) rfl (by kernel_rfl) (by kernel_rfl) (by kernel_rfl) (fun _ _ _ h => h) (Or.inl ⟨by rfl, ?y2⟩) (by assumption) ?r2
                case y2 => (intro W hSw; (try dsimp only at hSw); go_simp; try with_reducible rfl)
                (try simp only [Act.put, List.setIfInBounds_toArray, List.set_cons_zero, List.set_cons_succ])
                refine wpAnyH_take (i := 3) (v := ?v3) rfl (by kernel_rfl) (by kernel_rfl) (by kernel_rfl) (fun _ _ _ h => h) (Or.inl ⟨by rfl, ?y3⟩) (by assumption) ?r3
                case y3 => (intro W hSw; (try dsimp only at hSw); go_simp; try with_reducible rfl)
                (try simp only [Act.put, List.setIfInBounds_toArray, List.set_cons_zero, List.set_cons_succ])
                refine wpAnyH_take (i := 4) (v := ?v4) rfl (by kernel_rfl) (by kernel_rfl) (by kernel_rfl) (fun _ _ _ h => h) (Or.inl ⟨by rfl, ?y4⟩) (by assumption) ?r4
                case y4 => (intro W hSw; (try dsimp only at hSw); go_simp; try with_reducible rfl)
                (try simp only [Act.put, List.setIfInBounds_toArray, List.set_cons_zero, List.set_cons_succ])
                refine wpAnyH_take (i := 5) (v := ?v5) rfl (by kernel_rfl) (by kernel_rfl) (by kernel_rfl) (fun _ _ _ h => h) (Or.inl ⟨by rfl, ?y5⟩) (by assumption) ?r5
                case y5 => (intro W hSw; (try dsimp only at hSw); go_simp; try with_reducible rfl)
                (try simp only [Act.put, List.setIfInBounds_toArray, List.set_cons_zero, List.set_cons_succ])
                refine wpAnyH_take (i := 6) (v := ?v6) rfl (by kernel_rfl) (by kernel_rfl) (by kernel_rfl) (fun _ _ _ h => h) (Or.inl ⟨by rfl, ?y6⟩) (by assumption) ?r6
                case y6 => (intro W hSw; (try dsimp only at hSw); go_simp; try with_reducible rfl)
                (try simp only [Act.put, List.setIfInBounds_toArray, List.set_cons_zero, List.set_cons_succ])
                refine wpAnyH_take (i := 7) (v := ?v7) rfl (by kernel_rfl) (by kernel_rfl) (by kernel_rfl) (fun _ _ _ h => h) (Or.inl ⟨by rfl, ?y7⟩) (by assumption) ?r7
                case y7 => (intro W hSw; (try dsimp only at hSw); go_simp; try with_reducible rfl)
                (try simp only [Act.put, List.setIfInBounds_toArray, List.set_cons_zero, List.set_cons_succ])
                refine wpAnyH_take (i := 8) (v := ?v8) rfl (by kernel_rfl) (by kernel_rfl) (by kernel_rfl) (fun _ _ _ h => h) (Or.inl ⟨by rfl, ?y8⟩) (by assumption) ?r8
                case y8 => (intro W hSw; (try dsimp only at hSw); go_simp; try with_reducible rfl)
                (try simp only [Act.put, List.setIfInBounds_toArray, List.set_cons_zero, List.set_cons_succ])
                refine wpAnyH_take (i := 9) (v := ?v9) rfl (by kernel_rfl) (by kernel_rfl) (by kernel_rfl) (fun _ _ _ h => h) (Or.inl ⟨by rfl, ?y9⟩) (by assumption) ?r9
                case y9 => (intro W hSw; (try dsimp only at hSw); go_simp; try with_reducible rfl)
                (try simp only [Act.put, List.setIfInBounds_toArray, List.set_cons_zero, List.set_cons_succ])
                refine wpAnyH_take (i := 10) (v := ?v10) rfl (by kernel_rfl) (by kernel_rfl) (by kernel_rfl) (fun _ _ _ h => h) (Or.inl ⟨by rfl, ?y10⟩) (by assumption) ?r10
                case y10 => (intro W hSw; (try dsimp only at hSw); go_simp; try with_reducible rfl)
                (try simp only [Act.put, List.setIfInBounds_toArray, List.set_cons_zero, List.set_cons_succ])
                refine wpAnyH_take (i := 11) (v := ?v11) rfl (by kernel_rfl) (by kernel_rfl) (by kernel_rfl) (fun _ _ _ h => h) (Or.inl ⟨by rfl, ?y11⟩) (by assumption) ?r11
                case y11 => (intro W hSw; (try dsimp only at hSw); go_simp; try with_reducible rfl)
                (try simp only [Act.put, List.setIfInBounds_toArray, List.set_cons_zero, List.set_cons_succ])
                refine wpAnyH_take (i := 12) (v := ?v12) rfl (by kernel_rfl) (by kernel_rfl) (by kernel_rfl) (fun _ _ _ h => h) (Or.inl ⟨by rfl, ?y12⟩) (by assumption) ?r12
                case y12 => (intro W hSw; (try dsimp only at hSw); go_simp; try with_reducible rfl)
                (try simp only [Act.put, List.setIfInBounds_toArray, List.set_cons_zero, List.set_cons_succ])
                refine wpAnyH_ready (rs := [1, 13]) (by kernel_rfl) (by simp) ?_
                refine AllReadyH.cons rfl (fun K hK => ?_) (AllReadyH.cons rfl (fun K hK => ?_) AllReadyH.nil)
                · go_simp
                  refine hK.out _ _ (by (first | exact HS4.out _ HKD.out | exact HS4.out _ (Below.alloc HKD.out (K3.size HKD.out) _) | exact HS4.out _ HKW.out | exact HS4.out _ HK6.out)) (fun hHeld => ?_)
                  clear hK K
                  (try simp only [Act.put, List.setIfInBounds_toArray, List.set_cons_zero, List.set_cons_succ])
                  refine wpAnyH_ready (rs := [13]) (by kernel_rfl) (by simp) ?_
                  refine AllReadyH.cons rfl (fun K hK => ?_) AllReadyH.nil
                  · (go_simp; refine (HTV.out _).mono ?_; rintro e w5 ⟨rfl, rfl⟩; try dsimp only)
                    refine hK.out _ _ (by (first | exact HS4.out _ HKD.out | exact HS4.out _ (Below.alloc HKD.out (K3.size HKD.out) _) | exact HS4.out _ HKW.out | exact HS4.out _ HK6.out)) (fun hHeld => ?_)
                    clear hK K
                    (try simp only [Act.put, List.setIfInBounds_toArray, List.set_cons_zero, List.set_cons_succ])
                    refine wpAnyH_ready (rs := [14]) (by kernel_rfl) (by simp) ?_
                    refine AllReadyH.cons rfl (fun K hK => ?_) AllReadyH.nil
                    · go_simp
                      refine hK.out _ _ (by (first | exact HS4.out _ HKD.out | exact HS4.out _ (Below.alloc HKD.out (K3.size HKD.out) _) | exact HS4.out _ HKW.out | exact HS4.out _ HK6.out)) (fun hHeld => ?_)
                      clear hK K
                      (try simp only [Act.put, List.setIfInBounds_toArray, List.set_cons_zero, List.set_cons_succ])
                      refine wpAnyH_ready (rs := [15]) (by kernel_rfl) (by simp) ?_
                      refine AllReadyH.cons rfl (fun K hK => ?_) AllReadyH.nil
                      · (refine step_push (by rfl) _ _ 22 (by rfl) 4 (.bool false) 1 Tryd.underlying22 info4 (by decide) (by decide) (w.heap.size + 3) (.slice aa na cna) _ (.bool tb) HDD.out.acc (K3.size HKD.out) (by rfl) HALE.out (by rfl) _ (by rfl) (by rfl) ?_; intro v6 w6 hp6; obtain ⟨a6, n6, c6, rfl, -⟩ := hp6.lst.shape'; have o6 := HDD.out.obAcc hp6; have q6 := (cells_get o6 2); have z6 := cells_free o6 2; have hl6 := (lt_of_block o6); have HE6 := Lib.hid (show Bld (w6.setCell ⟨w.heap.size + 3, 2, none⟩ (.slice a6 n6 c6)) (w.heap.size + 3) (w.heap.size + 3) k ((P0 : Int) + st2) (.slice a6 n6 c6) vn [(.slice (some ⟨g, 0, none⟩) c c, (rowPQ l m p q).map (Value.int .i64))] items ((AC.take (p * n2 + q)).map Value.bool ++ [.bool tb]) from HDD.out.pushAcc hp6); have HKW := Lib.hid (show K3 w #[.int .i64 k, .int .i64 st, .slice (some ⟨ba, oa, none⟩) n1 ca, .slice (some ⟨bb, ob, none⟩) n1 cb] #[.int .i64 k2, .int .i64 st2, .slice (some ⟨bc, oc, none⟩) n2 cc, .slice (some ⟨bd, od, none⟩) n2 cd] w6 from HKD.out.grown hp6.grow (K3.size HKD.out) (fun x hx => HDD.out.acc.ge hx)); have HK6 := Lib.hid (show K3 w #[.int .i64 k, .int .i64 st, .slice (some ⟨ba, oa, none⟩) n1 ca, .slice (some ⟨bb, ob, none⟩) n1 cb] #[.int .i64 k2, .int .i64 st2, .slice (some ⟨bc, oc, none⟩) n2 cc, .slice (some ⟨bd, od, none⟩) n2 cd] (w6.setCell ⟨w.heap.size + 3, 2, none⟩ (.slice a6 n6 c6)) from HKW.out.setCell (p := ⟨w.heap.size + 3, 2, none⟩) (Nat.le_refl _) _); simp at q6; clear hp6 o6)
                        refine hK.out _ _ (by (first | exact HS4.out _ HKD.out | exact HS4.out _ (Below.alloc HKD.out (K3.size HKD.out) _) | exact HS4.out _ HKW.out | exact HS4.out _ HK6.out)) (fun hHeld => ?_)
                        clear hK K
                        (try simp only [Act.put, List.setIfInBounds_toArray, List.set_cons_zero, List.set_cons_succ])
                        refine wpAnyH_take (i := 16) (v := ?v13) rfl (by kernel_rfl) (by kernel_rfl) (by kernel_rfl) (fun _ _ _ h => h) (Or.inl ⟨by rfl, ?y13⟩) (by assumption) ?r13
                        case y13 => (intro W hSw; (try dsimp only at hSw); go_simp; try with_reducible rfl)
                        (try simp only [Act.put, List.setIfInBounds_toArray, List.set_cons_zero, List.set_cons_succ])
                        refine wpAnyH_ready (rs := [17]) (by kernel_rfl) (by simp) ?_
                        refine AllReadyH.cons rfl (fun K hK => ?_) AllReadyH.nil
                        · go_simp
                          refine hK.out _ _ (by (first | exact HS4.out _ HKD.out | exact HS4.out _ (Below.alloc HKD.out (K3.size HKD.out) _) | exact HS4.out _ HKW.out | exact HS4.out _ HK6.out)) (fun hHeld => ?_)
                          clear hK K
                          (try simp only [Act.put, List.setIfInBounds_toArray, List.set_cons_zero, List.set_cons_succ])
                          refine wpAnyH_done (by kernel_rfl) ?_ _
                          go_wp2_with fail
                          go_meet
                          exact ⟨_, HE6.out, HK6.out⟩
                · (go_simp; refine (HTV.out _).mono ?_; rintro e w5 ⟨rfl, rfl⟩; try dsimp only)
                  refine hK.out _ _ (by (first | exact HS4.out _ HKD.out | exact HS4.out _ (Below.alloc HKD.out (K3.size HKD.out) _) | exact HS4.out _ HKW.out | exact HS4.out _ HK6.out)) (fun hHeld => ?_)
                  clear hK K
                  (try simp only [Act.put, List.setIfInBounds_toArray, List.set_cons_zero, List.set_cons_succ])
                  refine wpAnyH_ready (rs := [1, 14]) (by kernel_rfl) (by simp) ?_
                  refine AllReadyH.cons rfl (fun K hK => ?_) (AllReadyH.cons rfl (fun K hK => ?_) AllReadyH.nil)
                  · go_simp
                    refine hK.out _ _ (by (first | exact HS4.out _ HKD.out | exact HS4.out _ (Below.alloc HKD.out (K3.size HKD.out) _) | exact HS4.out _ HKW.out | exact HS4.out _ HK6.out)) (fun hHeld => ?_)
                    clear hK K
                    (try simp only [Act.put, List.setIfInBounds_toArray, List.set_cons_zero, List.set_cons_succ])
                    refine wpAnyH_ready (rs := [14]) (by kernel_rfl) (by simp) ?_
                    refine AllReadyH.cons rfl (fun K hK => ?_) AllReadyH.nil
                    · go_simp
                      refine hK.out _ _ (by (first | exact HS4.out _ HKD.out | exact HS4.out _ (Below.alloc HKD.out (K3.size HKD.out) _) | exact HS4.out _ HKW.out | exact HS4.out _ HK6.out)) (fun hHeld => ?_)
                      clear hK K
                      (try simp only [Act.put, List.setIfInBounds_toArray, List.set_cons_zero, List.set_cons_succ])
                      refine wpAnyH_ready (rs := [15]) (by kernel_rfl) (by simp) ?_
                      refine AllReadyH.cons rfl (fun K hK => ?_) AllReadyH.nil
                      · (refine step_push (by rfl) _ _ 22 (by rfl) 4 (.bool false) 1 Tryd.underlying22 info4 (by decide) (by decide) (w.heap.size + 3) (.slice aa na cna) _ (.bool tb) HDD.out.acc (K3.size HKD.out) (by rfl) HALE.out (by rfl) _ (by rfl) (by rfl) ?_; intro v6 w6 hp6; obtain ⟨a6, n6, c6, rfl, -⟩ := hp6.lst.shape'; have o6 := HDD.out.obAcc hp6; have q6 := (cells_get o6 2); have z6 := cells_free o6 2; have hl6 := (lt_of_block o6); have HE6 := Lib.hid (show Bld (w6.setCell ⟨w.heap.size + 3, 2, none⟩ (.slice a6 n6 c6)) (w.heap.size + 3) (w.heap.size + 3) k ((P0 : Int) + st2) (.slice a6 n6 c6) vn [(.slice (some ⟨g, 0, none⟩) c c, (rowPQ l m p q).map (Value.int .i64))] items ((AC.take (p * n2 + q)).map Value.bool ++ [.bool tb]) from HDD.out.pushAcc hp6); have HKW := Lib.hid (show K3 w #[.int .i64 k, .int .i64 st, .slice (some ⟨ba, oa, none⟩) n1 ca, .slice (some ⟨bb, ob, none⟩) n1 cb] #[.int .i64 k2, .int .i64 st2, .slice (some ⟨bc, oc, none⟩) n2 cc, .slice (some ⟨bd, od, none⟩) n2 cd] w6 from HKD.out.grown hp6.grow (K3.size HKD.out) (fun x hx => HDD.out.acc.ge hx)); have HK6 := Lib.hid (show K3 w #[.int .i64 k, .int .i64 st, .slice (some ⟨ba, oa, none⟩) n1 ca, .slice (some ⟨bb, ob, none⟩) n1 cb] #[.int .i64 k2, .int .i64 st2, .slice (some ⟨bc, oc, none⟩) n2 cc, .slice (some ⟨bd, od, none⟩) n2 cd] (w6.setCell ⟨w.heap.size + 3, 2, none⟩ (.slice a6 n6 c6)) from HKW.out.setCell (p := ⟨w.heap.size + 3, 2, none⟩) (Nat.le_refl _) _); simp at q6; clear hp6 o6)
                        refine hK.out _ _ (by (first | exact HS4.out _ HKD.out | exact HS4.out _ (Below.alloc HKD.out (K3.size HKD.out) _) | exact HS4.out _ HKW.out | exact HS4.out _ HK6.out)) (fun hHeld => ?_)
                        clear hK K
                        (try simp only [Act.put, List.setIfInBounds_toArray, List.set_cons_zero, List.set_cons_succ])
                        refine wpAnyH_take (i := 16) (v := ?v14) rfl (by kernel_rfl) (by kernel_rfl) (by kernel_rfl) (fun _ _ _ h => h) (Or.inl ⟨by rfl, ?y14⟩) (by assumption) ?r14
                        case y14 => (intro W hSw; (try dsimp only at hSw); go_simp; try with_reducible rfl)
                        (try simp only [Act.put, List.setIfInBounds_toArray, List.set_cons_zero, List.set_cons_succ])
                        refine wpAnyH_ready (rs := [17]) (by kernel_rfl) (by simp) ?_
                        refine AllReadyH.cons rfl (fun K hK => ?_) AllReadyH.nil
                        · go_simp
                          refine hK.out _ _ (by (first | exact HS4.out _ HKD.out | exact HS4.out _ (Below.alloc HKD.out (K3.size HKD.out) _) | exact HS4.out _ HKW.out | exact HS4.out _ HK6.out)) (fun hHeld => ?_)
                          clear hK K
                          (try simp only [Act.put, List.setIfInBounds_toArray, List.set_cons_zero, List.set_cons_succ])
                          refine wpAnyH_done (by kernel_rfl) ?_ _
                          go_wp2_with fail
                          go_meet
                          exact ⟨_, HE6.out, HK6.out⟩
                  · go_simp
                    refine hK.out _ _ (by (first | exact HS4.out _ HKD.out | exact HS4.out _ (Below.alloc HKD.out (K3.size HKD.out) _) | exact HS4.out _ HKW.out | exact HS4.out _ HK6.out)) (fun hHeld => ?_)
                    clear hK K
                    (try simp only [Act.put, List.setIfInBounds_toArray, List.set_cons_zero, List.set_cons_succ])
                    refine wpAnyH_ready (rs := [1]) (by kernel_rfl) (by simp) ?_
                    refine AllReadyH.cons rfl (fun K hK => ?_) AllReadyH.nil
                    · go_simp
                      refine hK.out _ _ (by (first | exact HS4.out _ HKD.out | exact HS4.out _ (Below.alloc HKD.out (K3.size HKD.out) _) | exact HS4.out _ HKW.out | exact HS4.out _ HK6.out)) (fun hHeld => ?_)
                      clear hK K
                      (try simp only [Act.put, List.setIfInBounds_toArray, List.set_cons_zero, List.set_cons_succ])
                      refine wpAnyH_ready (rs := [15]) (by kernel_rfl) (by simp) ?_
                      refine AllReadyH.cons rfl (fun K hK => ?_) AllReadyH.nil
                      · (refine step_push (by rfl) _ _ 22 (by rfl) 4 (.bool false) 1 Tryd.underlying22 info4 (by decide) (by decide) (w.heap.size + 3) (.slice aa na cna) _ (.bool tb) HDD.out.acc (K3.size HKD.out) (by rfl) HALE.out (by rfl) _ (by rfl) (by rfl) ?_; intro v6 w6 hp6; obtain ⟨a6, n6, c6, rfl, -⟩ := hp6.lst.shape'; have o6 := HDD.out.obAcc hp6; have q6 := (cells_get o6 2); have z6 := cells_free o6 2; have hl6 := (lt_of_block o6); have HE6 := Lib.hid (show Bld (w6.setCell ⟨w.heap.size + 3, 2, none⟩ (.slice a6 n6 c6)) (w.heap.size + 3) (w.heap.size + 3) k ((P0 : Int) + st2) (.slice a6 n6 c6) vn [(.slice (some ⟨g, 0, none⟩) c c, (rowPQ l m p q).map (Value.int .i64))] items ((AC.take (p * n2 + q)).map Value.bool ++ [.bool tb]) from HDD.out.pushAcc hp6); have HKW := Lib.hid (show K3 w #[.int .i64 k, .int .i64 st, .slice (some ⟨ba, oa, none⟩) n1 ca, .slice (some ⟨bb, ob, none⟩) n1 cb] #[.int .i64 k2, .int .i64 st2, .slice (some ⟨bc, oc, none⟩) n2 cc, .slice (some ⟨bd, od, none⟩) n2 cd] w6 from HKD.out.grown hp6.grow (K3.size HKD.out) (fun x hx => HDD.out.acc.ge hx)); have HK6 := Lib.hid (show K3 w #[.int .i64 k, .int .i64 st, .slice (some ⟨ba, oa, none⟩) n1 ca, .slice (some ⟨bb, ob, none⟩) n1 cb] #[.int .i64 k2, .int .i64 st2, .slice (some ⟨bc, oc, none⟩) n2 cc, .slice (some ⟨bd, od, none⟩) n2 cd] (w6.setCell ⟨w.heap.size + 3, 2, none⟩ (.slice a6 n6 c6)) from HKW.out.setCell (p := ⟨w.heap.size + 3, 2, none⟩) (Nat.le_refl _) _); simp at q6; clear hp6 o6)
                        refine hK.out _ _ (by (first | exact HS4.out _ HKD.out | exact HS4.out _ (Below.alloc HKD.out (K3.size HKD.out) _) | exact HS4.out _ HKW.out | exact HS4.out _ HK6.out)) (fun hHeld => ?_)
                        clear hK K
                        (try simp only [Act.put, List.setIfInBounds_toArray, List.set_cons_zero, List.set_cons_succ])
                        refine wpAnyH_take (i := 16) (v := ?v15) rfl (by kernel_rfl) (by kernel_rfl) (by kernel_rfl) (fun _ _ _ h => h) (Or.inl ⟨by rfl, ?y15⟩) (by assumption) ?r15
                        case y15 => (intro W hSw; (try dsimp only at hSw); go_simp; try with_reducible rfl)
                        (try simp only [Act.put, List.setIfInBounds_toArray, List.set_cons_zero, List.set_cons_succ])
                        refine wpAnyH_ready (rs := [17]) (by kernel_rfl) (by simp) ?_
                        refine AllReadyH.cons rfl (fun K hK => ?_) AllReadyH.nil
                        · go_simp
                          refine hK.out _ _ (by (first | exact HS4.out _ HKD.out | exact HS4.out _ (Below.alloc HKD.out (K3.size HKD.out) _) | exact HS4.out _ HKW.out | exact HS4.out _ HK6.out)) (fun hHeld => ?_)
                          clear hK K
                          (try simp only [Act.put, List.setIfInBounds_toArray, List.set_cons_zero, List.set_cons_succ])
                          refine wpAnyH_done (by kernel_rfl) ?_ _
                          go_wp2_with fail
                          go_meet
                          exact ⟨_, HE6.out, HK6.out⟩
              case rest =>
                obtain ⟨va6, h1, h2⟩ := hcut
                have HE := Lib.hid h1
                have HKE := Lib.hid h2
                have hc3 := h1.c3
                have hlZ3 := h1.lt
                have hz3 := cells_free h1.at_ 3
                have HIL := Lib.hid (show (items.map Prod.fst).length ≤ 100000000 by
                  have := congrArg List.length HI.out
                  rw [List.length_map, List.length_map, List.length_take] at this
                  have h9 := HNLn.out
                  rw [List.length_map, this]; omega)
                obtain ⟨an, nn, cn, rfl, -⟩ := h1.nxt.shape'
                have HNB := Lib.hid (HNT.out p q hlp hlq)
                clear h1 h2 x2 HTV HS4
                go_wp2_with (at_builtin; refine wpList_push rfl _ _ 23 rfl 52 (.slice none 0 0) 24 Tryd.underlying23 info54 (by decide) (by decide) (w.heap.size + 3) (.slice an nn cn) _ (.slice (some ⟨g, 0, none⟩) c c) HE.out.nxt (K3.size HKE.out) rfl HIL.out rfl _ rfl rfl ?_; intro v5 w5 hp5; obtain ⟨a5, n5, cp5, rfl, -⟩ := hp5.lst.shape'; have o5 := HE.out.obNext hp5; have q5 := (cells_get o5 3); have z5 := cells_free o5 3; have hl5 := (lt_of_block o5); have HE5 := Lib.hid (HE.out.pushNext [] [] hp5); have HK5 := Lib.hid ((HKE.out.grown hp5.grow (K3.size HKE.out) (fun x hx => HE.out.nxt.ge hx)).setCell (p := ⟨w.heap.size + 3, 3, none⟩) (Nat.le_refl _) (.slice a5 n5 cp5)); simp at q5; clear hp5 o5)
                go_roundw
                case rel =>
                  refine ⟨q + 1, va6, .slice a5 n5 cp5, items ++ [(.slice (some ⟨g, 0, none⟩) c c, (rowPQ l m p q).map (Value.int .i64))], hlq, by go_num, ?_, ?_, HK5.out⟩
                  · have h1 := HE5.out
                    rw [List.nil_append] at h1
                    rw [show p * n2 + (q + 1) = p * n2 + q + 1 from rfl, HNA.out, List.map_append]
                    exact h1
                  · rw [List.map_append, HI.out, show p * n2 + (q + 1) = p * n2 + q + 1 from rfl, HNB.out, List.map_append]
                    rfl
                case measure => simp [intOf]; omega
        · obtain rfl : q = n2 := by omega
          have HNEXT := Lib.hid (show (p + 1) * q = p * q + q from Nat.succ_mul p q)
          clear hk
          go_wp2_with fail
          go_roundw
          case rel => exact ⟨p + 1, _, _, _, hlp, by go_num, by rw [HNEXT.out]; exact HD.out, by rw [HNEXT.out]; exact HI.out, HK.out⟩
          case measure => simp [intOf]; omega
    · obtain rfl : p = n1 := by omega
      have HBU := Lib.hid (show Built wr (w.heap.size + 3) va vn AC NX from Built.of_bld HD.out (by rw [HALL.out]) (by rw [HI.out, HNLL.out]))
      have hat := HD.out.at_
      have hZl := HD.out.lt
      obtain ⟨aa, na, cna, rfl, -⟩ := HD.out.acc.shape'
      obtain ⟨an, nn, cnn, rfl, -⟩ := HD.out.nxt.shape'
      have d0 := cells_get hat 0
      have d1 := cells_get hat 1
      have d2 := cells_get hat 2
      have d3 := cells_get hat 3
      simp at d0 d1 d2 d3
      have hres := K3.res hk
      have r0 := cells_get hres 0
      have r1 := cells_get hres 1
      have r2 := cells_get hres 2
      have r3 := cells_get hres 3
      have f0 := cells_free hres 0
      have f1 := cells_free hres 1
      have f2 := cells_free hres 2
      have f3 := cells_free hres 3
      have hlS := lt_of_block hres
      have p0 := cells_set hres 0 (.int .i64 k)
      have p1 := cells_set p0 1 (.int .i64 ((P0 : Int) + st2))
      have p2 := cells_set p1 2 (.slice aa na cna)
      have p3 := cells_set p2 3 (.slice an nn cnn)
      simp at r0 r1 r2 r3 p3
      have g0 := cells_get p3 0
      have g1 := cells_get p3 1
      have g2 := cells_get p3 2
      have g3 := cells_get p3 3
      simp at g0 g1 g2 g3
      have HG := Lib.hid (And.intro g0 (And.intro g1 (And.intro g2 g3)))
      have HBS := Lib.hid (K3.base hk)
      clear p0 p1 p2 p3 g0 g1 g2 g3 hres hat hk
      go_wp2_with fail
      obtain ⟨g0, g1, g2, g3⟩ := HG.out
      refine bodyPost_ret (v := .agg #[.int .i64 k, .int .i64 ((P0 : Int) + st2), .slice aa na cna, .slice an nn cnn]) (by simp [results, Tryd.results58, go_sem, g0, g1, g2, g3]) rfl ⟨.slice aa na cna, .slice an nn cnn, by rw [HKP.out, HSP.out], ?_, ?_⟩
      · exact (((((HBU.out.setLow (a := ⟨w.heap.size + 2, 0, none⟩) (Nat.lt_succ_self _) _).setLow (a := ⟨w.heap.size + 2, 1, none⟩) (Nat.lt_succ_self _) _).setLow (a := ⟨w.heap.size + 2, 2, none⟩) (Nat.lt_succ_self _) _).setLow (a := ⟨w.heap.size + 2, 3, none⟩) (Nat.lt_succ_self _) _).mono (Nat.le_add_right _ 3))
      · exact ((((HBS.out.setCell (p := ⟨w.heap.size + 2, 0, none⟩) (Nat.le_add_right _ 2) _).setCell (p := ⟨w.heap.size + 2, 1, none⟩) (Nat.le_add_right _ 2) _).setCell (p := ⟨w.heap.size + 2, 2, none⟩) (Nat.le_add_right _ 2) _).setCell (p := ⟨w.heap.size + 2, 3, none⟩) (Nat.le_add_right _ 2) _)
end Go.Proofs.YtaimealknkhfbaaDoor.PairsI
/- What the program's function that joins two automata by pairs of states hands back.
   Conditions: stated at each theorem. -/
namespace Go.Proofs.YtaimealknkhfbaaDoor.JoinI
set_option linter.unusedVariables false
set_option linter.unusedSimpArgs false
set_option maxRecDepth 100000
open Go.RowKit Mem Copy Rel Valid Heap Columns Bld TidyMath TidyAuto TidyRight SpecFiner SpecRight ToL SpecTidyRel ImplRight ImplTidied PairMath PairsI ErrAs ErrCode

/-- The automaton of pairs of tidy states. -/
def joinL (t : Bool → Bool → Bool) (l m : L) : L := pairL t (tidL l) (tidL m)
def joinB (t : Bool → Bool → Bool) (l m : L) : Bool := decide ((tidyAcc l).length * (tidyAcc m).length ≤ 1000) && fewB (joinL t l m) 150
def joinK (t : Bool → Bool → Bool) (l m : L) : Int := if joinB t l m = true then l.k else 0
def joinA (t : Bool → Bool → Bool) (l m : L) : List Bool := if joinB t l m = true then tidyAcc (joinL t l m) else []
def joinN (t : Bool → Bool → Bool) (l m : L) : List (List Int) := if joinB t l m = true then tidyNext (joinL t l m) else []
theorem join_no {t : Bool → Bool → Bool} {l m : L} (h : joinB t l m = false) : joinK t l m = 0 ∧ joinA t l m = [] ∧ joinN t l m = [] := by
  unfold joinK joinA joinN; rw [h]; exact ⟨rfl, rfl, rfl⟩
theorem join_few {t : Bool → Bool → Bool} {l m : L} (h : (tidyAcc l).length * (tidyAcc m).length ≤ 1000) : joinB t l m = fewB (joinL t l m) 150 ∧ joinK t l m = fewK (joinL t l m) 150 ∧ joinA t l m = fewA (joinL t l m) 150 ∧ joinN t l m = fewN (joinL t l m) 150 := by
  have hb : joinB t l m = fewB (joinL t l m) 150 := by unfold joinB; rw [decide_eq_true h, Bool.true_and]
  have hk : (joinL t l m).k = l.k := rfl
  refine ⟨hb, ?_, ?_, ?_⟩
  · unfold joinK fewK; rw [hb, hk]
  · unfold joinA fewA; rw [hb]
  · unfold joinN fewN; rw [hb]
theorem join_many {t : Bool → Bool → Bool} {l m : L} (h : ¬ (tidyAcc l).length * (tidyAcc m).length ≤ 1000) : joinB t l m = false := by
  unfold joinB; rw [decide_eq_false h, Bool.false_and]

theorem tidyNextLen (l : L) : (tidyNext l).length = (tidyAcc l).length := by
  unfold tidyNext tidyAcc tidNext tidAcc
  rw [List.length_map, List.length_map]

set_option maxHeartbeats 16000000 in
theorem joinedI (t : Bool → Bool → Bool) (l m : L) (hl : l.Ok) (hm : m.Ok) (hk : l.k = m.k) (hnl : l.acc.length ≤ 1000) (hnm : m.acc.length ≤ 1000) (v u : Value) (fid : FuncId)
    (hcf : ∀ (args : Array Value) (W : World), (callFunc fid args).run Tryd.prog W = .ok (.enter fid args) W)
    (hT : ∀ a b W, Calls Tryd.prog fid #[.bool a, .bool b] W fun e w' => e = .returned (.bool (t a b)) ∧ W = w')
    (w : World) (B : Nat) (h : RelAt w B v (relOf l)) (h' : RelAt w B u (relOf m)) (hB : B ≤ w.heap.size) :
    Calls Tryd.prog 41 #[v, u, .func (.func fid) #[] #[]] w fun e w' => ∃ va vn, ∃ n : Int, e = .returned (.tuple #[.agg #[.int .i64 (joinK t l m), .int .i64 0, va, vn], errV (joinB t l m) n]) ∧ Built w' w.heap.size va vn (joinA t l m) (joinN t l m) ∧ Below w.heap.size w w' := by
  have HT1 := Lib.hid (fun W (hb : Below w.heap.size w W) (hs : w.heap.size ≤ W.heap.size) => tidyToI l hl v W B (h.below hb hB) (Nat.le_trans hB hs) (by omega) 1000 (by omega))
  have HT2 := Lib.hid (fun W (hb : Below w.heap.size w W) (hs : w.heap.size ≤ W.heap.size) => tidyToI m hm u W B (h'.below hb hB) (Nat.le_trans hB hs) (by omega) 1000 (by omega))
  have hKl := Lib.hid (fun hq : fewB l 1000 = true => show fewK l 1000 = (l.k : Int) ∧ fewA l 1000 = tidyAcc l ∧ fewN l 1000 = tidyNext l ∧ (tidyAcc l).length ≤ 1000 from by unfold fewK fewA fewN; rw [hq]; exact ⟨rfl, rfl, rfl, of_decide_eq_true hq⟩)
  have hKm := Lib.hid (fun hq : fewB m 1000 = true => show fewK m 1000 = (m.k : Int) ∧ fewA m 1000 = tidyAcc m ∧ fewN m 1000 = tidyNext m ∧ (tidyAcc m).length ≤ 1000 from by unfold fewK fewA fewN; rw [hq]; exact ⟨rfl, rfl, rfl, of_decide_eq_true hq⟩)
  have HPI := Lib.hid (fun (hq1 : fewB l 1000 = true) (hq2 : fewB m 1000 = true) W C v' u' (h1 : RelAt W C v' ⟨fewK l 1000, 0, fewA l 1000, fewN l 1000⟩) (h2 : RelAt W C u' ⟨fewK m 1000, 0, fewA m 1000, fewN m 1000⟩) (hC : C ≤ W.heap.size) (hle : (fewN l 1000).length * (fewN m 1000).length ≤ 1000) => pairsI t (tidL l) (tidL m) (tidL_ok hl) (tidL_ok hm) hk v' u' fid hcf hT W C (by rw [tidL_rel, ← (hKl.out hq1).1, ← (hKl.out hq1).2.1, ← (hKl.out hq1).2.2.1]; exact h1) (by rw [tidL_rel, ← (hKm.out hq2).1, ← (hKm.out hq2).2.1, ← (hKm.out hq2).2.2.1]; exact h2) hC (by
    rw [(hKl.out hq1).2.2.1, (hKm.out hq2).2.2.1, tidyNextLen, tidyNextLen] at hle; exact hle))
  have HST := Lib.hid (fun (hq1 : fewB l 1000 = true) (hq2 : fewB m 1000 = true) (hle : (fewN l 1000).length * (fewN m 1000).length ≤ 1000) W C v' (h1 : RelAt W C v' (relOf (joinL t l m))) (hC : C ≤ W.heap.size) => show Calls Tryd.prog 57 #[v'] W fun e w' => ∃ va vn, e = .returned (.tuple #[.agg #[.int .i64 (joinK t l m), .int .i64 0, va, vn], errV (joinB t l m) 150]) ∧ Built w' W.heap.size va vn (joinA t l m) (joinN t l m) ∧ Below W.heap.size W w' from by
    rw [(hKl.out hq1).2.2.1, (hKm.out hq2).2.2.1, tidyNextLen, tidyNextLen] at hle
    have h3 := tidyStepI (joinL t l m) (pairL_ok t (tidL_ok hl) (tidL_ok hm) hk) v' W C h1 hC (by show (pairL t (tidL l) (tidL m)).acc.length ≤ 100000; rw [pairL_len]; exact Nat.le_trans hle (by omega))
    obtain ⟨e1, e2, e3, e4⟩ := join_few (t := t) hle
    rw [← e1, ← e2, ← e3, ← e4] at h3
    exact h3)
  have HN0 := Lib.hid (fun hb => join_no (t := t) (l := l) (m := m) hb)
  have HL1 := Lib.hid (fun hq : fewB l 1000 = false => show joinB t l m = false from join_many (by
    have h1 : ¬ (tidyAcc l).length ≤ 1000 := of_decide_eq_false hq
    have h2 := Nat.le_mul_of_pos_right (tidyAcc l).length (tidyAcc_pos m)
    omega))
  have HL2 := Lib.hid (fun hq : fewB m 1000 = false => show joinB t l m = false from join_many (by
    have h1 : ¬ (tidyAcc m).length ≤ 1000 := of_decide_eq_false hq
    have h2 := Nat.le_mul_of_pos_left (tidyAcc m).length (tidyAcc_pos l)
    omega))
  have HL3 := Lib.hid (fun (hq1 : fewB l 1000 = true) (hq2 : fewB m 1000 = true) (hle : ¬ (fewN l 1000).length * (fewN m 1000).length ≤ 1000) => show joinB t l m = false from by
    rw [(hKl.out hq1).2.2.1, (hKm.out hq2).2.2.1, tidyNextLen, tidyNextLen] at hle
    exact join_many hle)
  have HLN := Lib.hid (fun (hq1 : fewB l 1000 = true) => show (fewN l 1000).length ≤ 1000 from by rw [(hKl.out hq1).2.2.1, tidyNextLen]; exact (hKl.out hq1).2.2.2)
  have HMN := Lib.hid (fun (hq1 : fewB m 1000 = true) => show (fewN m 1000).length ≤ 1000 from by rw [(hKm.out hq1).2.2.1, tidyNextLen]; exact (hKm.out hq1).2.2.2)
  have HE1 := Lib.hid (show fewB l 1000 = false → fewK l 1000 = 0 ∧ fewA l 1000 = [] ∧ fewN l 1000 = [] from fun h => by unfold fewK fewA fewN; rw [h]; exact ⟨rfl, rfl, rfl⟩)
  have HE2 := Lib.hid (show fewB m 1000 = false → fewK m 1000 = 0 ∧ fewA m 1000 = [] ∧ fewN m 1000 = [] from fun h => by unfold fewK fewA fewN; rw [h]; exact ⟨rfl, rfl, rfl⟩)
  obtain ⟨K1, hK1⟩ : ∃ x, x = fewK l 1000 := ⟨_, rfl⟩
  obtain ⟨A1, hA1⟩ : ∃ x, x = fewA l 1000 := ⟨_, rfl⟩
  obtain ⟨N1, hN1⟩ : ∃ x, x = fewN l 1000 := ⟨_, rfl⟩
  obtain ⟨Q1, hQ1⟩ : ∃ x, x = fewB l 1000 := ⟨_, rfl⟩
  obtain ⟨K2, hK2⟩ : ∃ x, x = fewK m 1000 := ⟨_, rfl⟩
  obtain ⟨A2, hA2⟩ : ∃ x, x = fewA m 1000 := ⟨_, rfl⟩
  obtain ⟨N2, hN2⟩ : ∃ x, x = fewN m 1000 := ⟨_, rfl⟩
  obtain ⟨Q2, hQ2⟩ : ∃ x, x = fewB m 1000 := ⟨_, rfl⟩
  rw [← hK1, ← hA1, ← hN1, ← hQ1] at HT1
  rw [← hK2, ← hA2, ← hN2, ← hQ2] at HT2
  rw [← hK1, ← hA1, ← hN1, ← hQ1, ← hK2, ← hA2, ← hN2, ← hQ2] at HPI
  rw [← hN1, ← hQ1, ← hN2, ← hQ2] at HST HL3
  rw [← hQ1] at HL1
  rw [← hQ2] at HL2
  rw [← hQ1, ← hN1] at HLN
  rw [← hQ2, ← hN2] at HMN
  rw [← hK1, ← hA1, ← hN1, ← hQ1] at HE1
  rw [← hK2, ← hA2, ← hN2, ← hQ2] at HE2
  clear hKl hKm hK1 hA1 hN1 hQ1 hK2 hA2 hN2 hQ2
  obtain ⟨K, hK⟩ : ∃ x, x = joinK t l m := ⟨_, rfl⟩
  obtain ⟨A, hA⟩ : ∃ x, x = joinA t l m := ⟨_, rfl⟩
  obtain ⟨N, hN⟩ : ∃ x, x = joinN t l m := ⟨_, rfl⟩
  obtain ⟨Q, hQ⟩ : ∃ x, x = joinB t l m := ⟨_, rfl⟩
  obtain ⟨PK, hPK⟩ : ∃ x : Nat, x = (pairL t (tidL l) (tidL m)).k := ⟨_, rfl⟩
  obtain ⟨PS, hPS⟩ : ∃ x : Nat, x = (pairL t (tidL l) (tidL m)).start := ⟨_, rfl⟩
  obtain ⟨PA, hPA⟩ : ∃ x, x = (pairL t (tidL l) (tidL m)).acc := ⟨_, rfl⟩
  obtain ⟨PN, hPN⟩ : ∃ x, x = (relOf (pairL t (tidL l) (tidL m))).next := ⟨_, rfl⟩
  rw [← hPK, ← hPS, ← hPA, ← hPN] at HPI
  have HJR := Lib.hid (show relOf (joinL t l m) = ⟨PK, PS, PA, PN⟩ from by rw [hPK, hPS, hPA, hPN]; rfl)
  rw [HJR.out] at HST
  clear HJR hPK hPS hPA hPN
  rw [← hK, ← hA, ← hN, ← hQ] at HST HN0
  rw [← hQ] at HL1 HL2 HL3
  rw [← hK, ← hA, ← hN, ← hQ]
  clear hK hA hN hQ
  obtain ⟨r, hr⟩ : ∃ r, r = relOf l := ⟨_, rfl⟩
  obtain ⟨s, hs⟩ : ∃ s, s = relOf m := ⟨_, rfl⟩
  rw [← hr] at h
  rw [← hs] at h'
  clear hr hs hl hm hk hnl hnm hT
  obtain ⟨va, vn, rfl, ha, hn⟩ := h
  obtain ⟨aa1, ba, oa, ca1, rfl, -, -, -⟩ := ha
  obtain ⟨-, ⟨ab1, bb, ob, cb1, rfl, -, -, -⟩, -⟩ := hn
  obtain ⟨va, vn, rfl, ha, hn⟩ := h'
  obtain ⟨aa2, ba, oa, ca2, rfl, -, -, -⟩ := ha
  obtain ⟨-, ⟨ab2, bb, ob, cb2, rfl, -, -, -⟩, -⟩ := hn
  obtain ⟨k1, hk⟩ : ∃ x, x = r.tapes := ⟨_, rfl⟩
  obtain ⟨st1, hst⟩ : ∃ x, x = r.start := ⟨_, rfl⟩
  obtain ⟨na1, hna⟩ : ∃ x, x = r.accept.length := ⟨_, rfl⟩
  obtain ⟨nb1, hnb⟩ : ∃ x, x = r.next.length := ⟨_, rfl⟩
  rw [← hk, ← hst, ← hna, ← hnb] at HT1
  rw [← hk, ← hst, ← hna, ← hnb]
  clear hk hst hna hnb
  obtain ⟨k2, hk⟩ : ∃ x, x = s.tapes := ⟨_, rfl⟩
  obtain ⟨st2, hst⟩ : ∃ x, x = s.start := ⟨_, rfl⟩
  obtain ⟨na2, hna⟩ : ∃ x, x = s.accept.length := ⟨_, rfl⟩
  obtain ⟨nb2, hnb⟩ : ∃ x, x = s.next.length := ⟨_, rfl⟩
  rw [← hk, ← hst, ← hna, ← hnb] at HT2
  rw [← hk, ← hst, ← hna, ← hnb]
  clear hk hst hna hnb
  have HC1 := Lib.hid (HT1.out (((w.alloc (.cells #[.int .i64 k1, .int .i64 st1, .slice aa1 na1 ca1, .slice ab1 nb1 cb1] 27)).alloc (.cells #[.int .i64 k2, .int .i64 st2, .slice aa2 na2 ca2, .slice ab2 nb2 cb2] 27)).alloc (.cells #[Value.int .i64 0, .int .i64 0, .slice none 0 0, .slice none 0 0] 27)) (base_box (base_box (base_box (Below.refl _ w) _) _) _) (by rw [size_alloc', size_alloc', size_alloc']; omega))
  clear HT1 hB
  go_enter Tryd.func41, Tryd.ntmps41
  go_wp2_with fail
  refine HC1.out.mono ?_
  rintro e w3 ⟨va, vn, rfl, hbu, hb3⟩
  have hk3 : K3 w #[.int .i64 k1, .int .i64 st1, .slice aa1 na1 ca1, .slice ab1 nb1 cb1] #[.int .i64 k2, .int .i64 st2, .slice aa2 na2 ca2, .slice ab2 nb2 cb2] w3 := by
    have h1 := hb3
    rw [K3.size3] at h1
    exact h1
  have hbu2 : Built w3 (w.heap.size + 3) va vn A1 N1 := by
    have h1 := hbu
    rw [K3.size3] at h1
    exact h1
  have HBU := Lib.hid hbu2
  obtain ⟨a3, n3, c3, rfl, -⟩ := hbu.acc.shape'
  obtain ⟨items0, -, hnx0, hi0⟩ := hbu.rows
  obtain ⟨b3, m3, d3, rfl, hm3⟩ := hnx0.shape'
  have HM3 := Lib.hid (show m3 = N1.length from by
    have h1 := congrArg List.length hi0
    rw [hm3.out, List.length_map]
    rw [List.length_map, List.length_map] at h1
    exact h1)
  clear hi0 hm3
  have HK3 := Lib.hid hk3
  have hbx := K3.box2 hk3
  have y0 := cells_get hbx 0
  have y1 := cells_get hbx 1
  have y2 := cells_get hbx 2
  have y3 := cells_get hbx 3
  simp at y0 y1 y2 y3
  have hl3 : w.heap.size + 1 < w3.heap.size := lt_of_block hbx
  clear hb3 hbu hbu2 hnx0 hk3 HC1 hbx
  cases Q1 with
  | false =>
    rw [show errV false ((1000 : Nat) : Int) = Value.iface 71 (.int .i64 1000) from rfl]
    obtain rfl := HL1.out rfl
    obtain ⟨rfl, rfl, rfl⟩ := HN0.out rfl
    have hres := K3.res HK3.out
    have r0 := cells_get hres 0
    have r1 := cells_get hres 1
    have r2 := cells_get hres 2
    have r3 := cells_get hres 3
    have f0 := cells_free hres 0
    have f1 := cells_free hres 1
    have f2 := cells_free hres 2
    have f3 := cells_free hres 3
    have hlS := lt_of_block hres
    have p0 := cells_set hres 0 (.int .i64 0)
    have p1 := cells_set p0 1 (.int .i64 0)
    have p2 := cells_set p1 2 (Value.slice none 0 0)
    have p3 := cells_set p2 3 (Value.slice none 0 0)
    simp at r0 r1 r2 r3 p3
    have p4 := (Below.heap_alloc _ (.cells #[.int .i64 K1, .int .i64 0, .slice a3 n3 c3, .slice b3 m3 d3] 27) _ (lt_of_block p3)).trans p3
    have g0 := cells_get p4 0
    have g1 := cells_get p4 1
    have g2 := cells_get p4 2
    have g3 := cells_get p4 3
    simp at g0 g1 g2 g3
    have HG := Lib.hid (And.intro g0 (And.intro g1 (And.intro g2 g3)))
    clear p0 p1 p2 p3 p4 g0 g1 g2 g3 hres
    clear HT2 HPI HST HL1 HL2 HL3 HN0 HE1 HE2 y0 y1 y2 y3
    go_wp2_with fail
    obtain ⟨g0, g1, g2, g3⟩ := HG.out
    refine bodyPost_ret (v := .tuple #[.agg #[.int .i64 0, .int .i64 0, .slice none 0 0, .slice none 0 0], .iface 71 (.int .i64 1000)]) (by simp [results, Tryd.results41, go_sem, g0, g1, g2, g3]) rfl ⟨.slice none 0 0, .slice none 0 0, 1000, rfl, ImplTidied.built_none _ _, ?_⟩
    have HBW := K3.base HK3.out
    exact ((((HBW.setCell (p := ⟨w.heap.size + 1 + 1, 0, none⟩) (Nat.le_succ_of_le (Nat.le_succ _)) _).setCell (p := ⟨w.heap.size + 1 + 1, 1, none⟩) (Nat.le_succ_of_le (Nat.le_succ _)) _).setCell (p := ⟨w.heap.size + 1 + 1, 2, none⟩) (Nat.le_succ_of_le (Nat.le_succ _)) _).setCell (p := ⟨w.heap.size + 1 + 1, 3, none⟩) (Nat.le_succ_of_le (Nat.le_succ _)) _).alloc (by simp [World.setCell]; have := HBW.size; omega) _
  | true =>
    rw [show errV true ((1000 : Nat) : Int) = Value.nilIface from rfl]
    have HC2 := Lib.hid (HT2.out (w3.alloc (.cells #[.int .i64 K1, .int .i64 0, .slice a3 n3 c3, .slice b3 m3 d3] 27)) ((K3.base HK3.out).alloc (by have := K3.size HK3.out; omega) _) (by have := K3.size HK3.out; rw [size_alloc']; omega))
    clear HT2
    go_wp2_with fail
    refine HC2.out.mono ?_
    rintro e w5 ⟨va, vn, rfl, hbu, hb5⟩
    have hs5 := hb5.size
    rw [size_alloc'] at hbu hb5 hs5
    have HBU5 := Lib.hid hbu
    have HLB := Lib.hid (show w5.heap[w3.heap.size]? = some (.cells #[.int .i64 K1, .int .i64 0, .slice a3 n3 c3, .slice b3 m3 d3] 27 (0, 0)) from (hb5.block _ (Nat.lt_succ_self _)).trans (heap_alloc_new _ _))
    have HB35 := Lib.hid (show Below w3.heap.size w3 w5 from ((Below.refl _ _).alloc (Nat.le_refl _) _).trans (hb5.mono (Nat.le_succ _)))
    have HK5 := Lib.hid (show K3 w #[.int .i64 k1, .int .i64 st1, .slice aa1 na1 ca1, .slice ab1 nb1 cb1] #[.int .i64 k2, .int .i64 st2, .slice aa2 na2 ca2, .slice ab2 nb2 cb2] w5 from Below.trans HK3.out (HB35.out.mono (K3.size HK3.out)))
    have HS5 := Lib.hid hs5
    obtain ⟨a5, n5, c5, rfl, -⟩ := hbu.acc.shape'
    obtain ⟨items5, -, hnx5, hi5⟩ := hbu.rows
    obtain ⟨b5, m5, d5, rfl, hm5⟩ := hnx5.shape'
    have HM5 := Lib.hid (show m5 = N2.length from by
      have h1 := congrArg List.length hi5
      rw [hm5.out, List.length_map]
      rw [List.length_map, List.length_map] at h1
      exact h1)
    clear hi5 hm5 hnx5 hbu hb5 hs5 HC2 y0 y1 y2 y3
    cases Q2 with
    | false =>
      rw [show errV false ((1000 : Nat) : Int) = Value.iface 71 (.int .i64 1000) from rfl]
      obtain rfl := HL2.out rfl
      obtain ⟨rfl, rfl, rfl⟩ := HN0.out rfl
      have hres := K3.res HK5.out
      have r0 := cells_get hres 0
      have r1 := cells_get hres 1
      have r2 := cells_get hres 2
      have r3 := cells_get hres 3
      have f0 := cells_free hres 0
      have f1 := cells_free hres 1
      have f2 := cells_free hres 2
      have f3 := cells_free hres 3
      have hlS := lt_of_block hres
      have p0 := cells_set hres 0 (.int .i64 0)
      have p1 := cells_set p0 1 (.int .i64 0)
      have p2 := cells_set p1 2 (Value.slice none 0 0)
      have p3 := cells_set p2 3 (Value.slice none 0 0)
      simp at r0 r1 r2 r3 p3
      have p4 := (Below.heap_alloc _ (.cells #[.int .i64 K2, .int .i64 0, .slice a5 n5 c5, .slice b5 m5 d5] 27) _ (lt_of_block p3)).trans p3
      have g0 := cells_get p4 0
      have g1 := cells_get p4 1
      have g2 := cells_get p4 2
      have g3 := cells_get p4 3
      simp at g0 g1 g2 g3
      have HG := Lib.hid (And.intro g0 (And.intro g1 (And.intro g2 g3)))
      clear p0 p1 p2 p3 p4 g0 g1 g2 g3 hres
      clear HPI HST HL1 HL2 HL3 HN0 HE1 HE2
      go_wp2_with fail
      obtain ⟨g0, g1, g2, g3⟩ := HG.out
      refine bodyPost_ret (v := .tuple #[.agg #[.int .i64 0, .int .i64 0, .slice none 0 0, .slice none 0 0], .iface 71 (.int .i64 1000)]) (by simp [results, Tryd.results41, go_sem, g0, g1, g2, g3]) rfl ⟨.slice none 0 0, .slice none 0 0, 1000, rfl, ImplTidied.built_none _ _, ?_⟩
      have HBW := K3.base HK5.out
      exact ((((HBW.setCell (p := ⟨w.heap.size + 1 + 1, 0, none⟩) (Nat.le_succ_of_le (Nat.le_succ _)) _).setCell (p := ⟨w.heap.size + 1 + 1, 1, none⟩) (Nat.le_succ_of_le (Nat.le_succ _)) _).setCell (p := ⟨w.heap.size + 1 + 1, 2, none⟩) (Nat.le_succ_of_le (Nat.le_succ _)) _).setCell (p := ⟨w.heap.size + 1 + 1, 3, none⟩) (Nat.le_succ_of_le (Nat.le_succ _)) _).alloc (by simp [World.setCell]; have := HBW.size; omega) _
    | true =>
      rw [show errV true ((1000 : Nat) : Int) = Value.nilIface from rfl]
      have hl3b := lt_of_block HLB.out
      have l0 := cells_get HLB.out 0
      have l1 := cells_get HLB.out 1
      have l2 := cells_get HLB.out 2
      have l3 := cells_get HLB.out 3
      simp at l0 l1 l2 l3
      have hm3a : m3 ≤ 1000 := by rw [HM3.out]; exact HLN.out (by trivial)
      have hm5a : m5 ≤ 1000 := by rw [HM5.out]; exact HMN.out (by trivial)
      obtain ⟨P, hP⟩ : ∃ P, P = m3 * m5 := ⟨_, rfl⟩
      have hPm : P ≤ 1000000 := by rw [hP]; exact Nat.mul_le_mul hm3a hm5a
      have hmul : (m3 : Int) * (m5 : Int) = (P : Int) := by rw [hP]; exact (Int.natCast_mul m3 m5).symm
      have hwP : IntKind.i64.wrap (P : Int) = (P : Int) := by rw [IntKind.wrap_i64]; omega
      have HP := Lib.hid (show P = N1.length * N2.length from by rw [hP, HM3.out, HM5.out])
      clear hP
      by_cases hle : P ≤ 1000
      · have HC3 := Lib.hid (HPI.out (by trivial) (by trivial) (w5.alloc (.cells #[.int .i64 K2, .int .i64 0, .slice a5 n5 c5, .slice b5 m5 d5] 27)) _ (.agg #[.int .i64 K1, .int .i64 0, .slice a3 n3 c3, .slice b3 m3 d3]) (.agg #[.int .i64 K2, .int .i64 0, .slice a5 n5 c5, .slice b5 m5 d5]) (Built.reads (HBU.out.below (HB35.out.trans (((Below.refl _ w5).alloc (Nat.le_refl _) _).mono HB35.out.size))) _ (Nat.le_refl _) _ _) (Built.reads (HBU5.out.below ((Below.refl _ w5).alloc (Nat.le_refl _) _)) _ (Nat.le_refl _) _ _) (Nat.le_refl _) (by rw [← HP.out]; exact hle))
        have HST2 := Lib.hid (fun W C v' h1 h2 => HST.out (by trivial) (by trivial) (by rw [← HP.out]; exact hle) W C v' h1 h2)
        have HKA := Lib.hid (show K3 w #[.int .i64 k1, .int .i64 st1, .slice aa1 na1 ca1, .slice ab1 nb1 cb1] #[.int .i64 k2, .int .i64 st2, .slice aa2 na2 ca2, .slice ab2 nb2 cb2] (w5.alloc (.cells #[.int .i64 K2, .int .i64 0, .slice a5 n5 c5, .slice b5 m5 d5] 27)) from Below.alloc HK5.out (K3.size HK5.out) _)
        clear HPI HST HL1 HL2 HL3 HE1 HE2
        go_wp2_with fail
        refine HC3.out.mono ?_
        rintro e w7 ⟨va, vn, rfl, hbu, hb7⟩
        have HK7 := Lib.hid (show K3 w #[.int .i64 k1, .int .i64 st1, .slice aa1 na1 ca1, .slice ab1 nb1 cb1] #[.int .i64 k2, .int .i64 st2, .slice aa2 na2 ca2, .slice ab2 nb2 cb2] w7 from Below.trans HKA.out (hb7.mono (K3.size HKA.out)))
        have HC4 := Lib.hid (HST2.out w7 _ _ (Built.reads hbu _ (Nat.le_refl _) _ _) (Nat.le_refl _))
        obtain ⟨a7, n7, c7, rfl, -⟩ := hbu.acc.shape'
        obtain ⟨items7, -, hnx7, -⟩ := hbu.rows
        obtain ⟨b7, m7, d7, rfl, -⟩ := hnx7.shape'
        clear hbu hb7 hnx7 HC3 HST2 l0 l1 l2 l3
        go_wp2_with fail
        refine HC4.out.mono ?_
        rintro e w8 ⟨va, vn, rfl, hbu, hb8⟩
        have HK8 := Lib.hid (show K3 w #[.int .i64 k1, .int .i64 st1, .slice aa1 na1 ca1, .slice ab1 nb1 cb1] #[.int .i64 k2, .int .i64 st2, .slice aa2 na2 ca2, .slice ab2 nb2 cb2] w8 from Below.trans HK7.out (hb8.mono (K3.size HK7.out)))
        have HBU8 := Lib.hid (show Built w8 (w.heap.size + 3) va vn A N from hbu.mono (K3.size HK7.out))
        obtain ⟨a8, n8, c8, rfl, -⟩ := hbu.acc.shape'
        obtain ⟨items8, -, hnx8, -⟩ := hbu.rows
        obtain ⟨b8, m8, d8, rfl, -⟩ := hnx8.shape'
        have hres := K3.res HK8.out
        clear hbu hb8 hnx8 HC4
        have r0 := cells_get hres 0
        have r1 := cells_get hres 1
        have r2 := cells_get hres 2
        have r3 := cells_get hres 3
        have f0 := cells_free hres 0
        have f1 := cells_free hres 1
        have f2 := cells_free hres 2
        have f3 := cells_free hres 3
        have hlS := lt_of_block hres
        have p0 := cells_set hres 0 (.int .i64 K)
        have p1 := cells_set p0 1 (.int .i64 0)
        have p2 := cells_set p1 2 (.slice a8 n8 c8)
        have p3 := cells_set p2 3 (.slice b8 m8 d8)
        simp at r0 r1 r2 r3 p3
        have g0 := cells_get p3 0
        have g1 := cells_get p3 1
        have g2 := cells_get p3 2
        have g3 := cells_get p3 3
        simp at g0 g1 g2 g3
        have HG := Lib.hid (And.intro g0 (And.intro g1 (And.intro g2 g3)))
        clear p0 p1 p2 p3 g0 g1 g2 g3 hres
        go_wp2_with fail
        obtain ⟨g0, g1, g2, g3⟩ := HG.out
        refine bodyPost_ret (v := .tuple #[.agg #[.int .i64 K, .int .i64 0, .slice a8 n8 c8, .slice b8 m8 d8], errV Q 150]) (by simp [results, Tryd.results41, go_sem, g0, g1, g2, g3]) rfl ⟨.slice a8 n8 c8, .slice b8 m8 d8, 150, rfl, ?_, ?_⟩
        · exact (((((HBU8.out.setLow (a := ⟨w.heap.size + 1 + 1, 0, none⟩) (Nat.lt_succ_self _) _).setLow (a := ⟨w.heap.size + 1 + 1, 1, none⟩) (Nat.lt_succ_self _) _).setLow (a := ⟨w.heap.size + 1 + 1, 2, none⟩) (Nat.lt_succ_self _) _).setLow (a := ⟨w.heap.size + 1 + 1, 3, none⟩) (Nat.lt_succ_self _) _).mono (by omega))
        · have HBW := K3.base HK8.out
          exact ((((HBW.setCell (p := ⟨w.heap.size + 1 + 1, 0, none⟩) (Nat.le_succ_of_le (Nat.le_succ _)) _).setCell (p := ⟨w.heap.size + 1 + 1, 1, none⟩) (Nat.le_succ_of_le (Nat.le_succ _)) _).setCell (p := ⟨w.heap.size + 1 + 1, 2, none⟩) (Nat.le_succ_of_le (Nat.le_succ _)) _).setCell (p := ⟨w.heap.size + 1 + 1, 3, none⟩) (Nat.le_succ_of_le (Nat.le_succ _)) _)
      · obtain rfl := HL3.out (by trivial) (by trivial) (by rw [← HP.out]; exact hle)
        obtain ⟨rfl, rfl, rfl⟩ := HN0.out rfl
        have hres := K3.res HK5.out
        have r0 := cells_get hres 0
        have r1 := cells_get hres 1
        have r2 := cells_get hres 2
        have r3 := cells_get hres 3
        have f0 := cells_free hres 0
        have f1 := cells_free hres 1
        have f2 := cells_free hres 2
        have f3 := cells_free hres 3
        have hlS := lt_of_block hres
        have p0 := cells_set hres 0 (.int .i64 0)
        have p1 := cells_set p0 1 (.int .i64 0)
        have p2 := cells_set p1 2 (Value.slice none 0 0)
        have p3 := cells_set p2 3 (Value.slice none 0 0)
        simp at r0 r1 r2 r3 p3
        have p4 := (Below.heap_alloc _ (.cells #[.int .i64 K2, .int .i64 0, .slice a5 n5 c5, .slice b5 m5 d5] 27) _ (lt_of_block p3)).trans p3
        have g0 := cells_get p4 0
        have g1 := cells_get p4 1
        have g2 := cells_get p4 2
        have g3 := cells_get p4 3
        simp at g0 g1 g2 g3
        have HG := Lib.hid (And.intro g0 (And.intro g1 (And.intro g2 g3)))
        clear p0 p1 p2 p3 p4 g0 g1 g2 g3 hres
        clear HPI HST HL1 HL2 HL3 HN0 HE1 HE2
        go_wp2_with fail
        obtain ⟨g0, g1, g2, g3⟩ := HG.out
        refine bodyPost_ret (v := .tuple #[.agg #[.int .i64 0, .int .i64 0, .slice none 0 0, .slice none 0 0], .iface 71 (.int .i64 1000)]) (by simp [results, Tryd.results41, go_sem, g0, g1, g2, g3]) rfl ⟨.slice none 0 0, .slice none 0 0, 1000, rfl, ImplTidied.built_none _ _, ?_⟩
        have HBW := K3.base HK5.out
        exact ((((HBW.setCell (p := ⟨w.heap.size + 1 + 1, 0, none⟩) (Nat.le_succ_of_le (Nat.le_succ _)) _).setCell (p := ⟨w.heap.size + 1 + 1, 1, none⟩) (Nat.le_succ_of_le (Nat.le_succ _)) _).setCell (p := ⟨w.heap.size + 1 + 1, 2, none⟩) (Nat.le_succ_of_le (Nat.le_succ _)) _).setCell (p := ⟨w.heap.size + 1 + 1, 3, none⟩) (Nat.le_succ_of_le (Nat.le_succ _)) _).alloc (by simp [World.setCell]; have := HBW.size; omega) _
end Go.Proofs.YtaimealknkhfbaaDoor.JoinI
/- What the program's BothRelations, EitherRelation and WithoutRelation answer: a relation in memory of its own, and a code.
   Conditions: the relations are read as XRel's text says; the type's handle lies where errors.As reads it. -/
namespace Go.Proofs.YtaimealknkhfbaaDoor.TwoImpl
set_option linter.unusedVariables false
set_option linter.unusedSimpArgs false
set_option maxRecDepth 100000
open Go.RowKit Mem Copy Rel Valid Heap Columns Bld TidyMath TidyAuto TidyRight SpecFiner SpecRight ToL SpecTidyRel ImplRight ImplTidied PairMath PairsI ErrAs ErrCode JoinI

/-- An outcome: the relation, or nothing and the code of a limit. -/
theorem outcomeI (Q : Bool) (K : Int) (aa ab : Option Addr) (na ca nb cb : Nat) (n : Int) (w : World) (hg : Laid w) (B : Nat) (A : List Bool) (N : List (List Int)) (hbu : Built w B (.slice aa na ca) (.slice ab nb cb) A N) (h0 : Q = false → K = 0 ∧ A = [] ∧ N = []) :
    Calls Tryd.prog 20 #[.agg #[.int .i64 K, .int .i64 0, .slice aa na ca, .slice ab nb cb], errV Q n] w fun e w' => ∃ va vn, e = .returned (.tuple #[.agg #[.int .i64 K, .int .i64 0, va, vn], .int .i64 (if Q = true then 0 else 3)]) ∧ Built w' B va vn A N ∧ Below w.heap.size w w' := by
  cases Q with
  | true => exact (outcome_ok K aa ab na ca nb cb w).mono fun e w' ⟨he, hb⟩ => ⟨_, _, he, hbu.below hb, hb⟩
  | false =>
    obtain ⟨rfl, rfl, rfl⟩ := h0 rfl
    exact (outcome_no 0 aa ab na ca nb cb w n hg).mono fun e w' ⟨he, hb⟩ => ⟨_, _, he, ImplTidied.built_none _ _, hb⟩


/-- Two boxes, and what is made behind them. -/
abbrev K2 (w : World) (c d : Array Value) (W : World) : Prop := Below (w.heap.size + 2) ((w.alloc (.cells c 27)).alloc (.cells d 27)) W
theorem K2.size {w W : World} {c d : Array Value} (h : K2 w c d W) : w.heap.size + 2 ≤ W.heap.size := by have := Below.size h; rw [size_alloc', size_alloc'] at this; exact this
theorem K2.base {w W : World} {c d : Array Value} (h : K2 w c d W) : Below w.heap.size w W :=
  (base_box (base_box (Below.refl _ w) _) _).trans (Below.mono h (by omega))
theorem K2.box1 {w W : World} {c d : Array Value} (h : K2 w c d W) : W.heap[w.heap.size]? = some (.cells c 27 (0, 0)) := by
  rw [Below.block h _ (by omega), Below.heap_alloc _ _ _ (by rw [size_alloc']; omega)]; exact heap_alloc_new _ _
theorem K2.box2 {w W : World} {c d : Array Value} (h : K2 w c d W) : W.heap[w.heap.size + 1]? = some (.cells d 27 (0, 0)) := by
  rw [Below.block h _ (by omega)]
  have := heap_alloc_new (w.alloc (.cells c 27)) (.cells d 27)
  rwa [size_alloc'] at this

/-- The code for two relations. -/
def alikeC (r s : R) : Int := if okB r = true then (if okB s = true then (if r.tapes = s.tapes then 0 else 2) else 1) else 1

def twoC (t : Bool → Bool → Bool) (r s : R) : Int := if alikeC r s = 0 then (if joinB t (toL r) (toL s) = true then 0 else 3) else alikeC r s
def twoK (t : Bool → Bool → Bool) (r s : R) : Int := if alikeC r s = 0 then joinK t (toL r) (toL s) else 0
def twoA (t : Bool → Bool → Bool) (r s : R) : List Bool := if alikeC r s = 0 then joinA t (toL r) (toL s) else []
def twoN (t : Bool → Bool → Bool) (r s : R) : List (List Int) := if alikeC r s = 0 then joinN t (toL r) (toL s) else []
theorem two_yes {t : Bool → Bool → Bool} {r s : R} (h : alikeC r s = 0) : twoK t r s = joinK t (toL r) (toL s) ∧ twoA t r s = joinA t (toL r) (toL s) ∧ twoN t r s = joinN t (toL r) (toL s) ∧ twoC t r s = if joinB t (toL r) (toL s) = true then 0 else 3 :=
  ⟨if_pos h, if_pos h, if_pos h, if_pos h⟩
theorem two_no {t : Bool → Bool → Bool} {r s : R} (h : alikeC r s ≠ 0) : twoK t r s = 0 ∧ twoA t r s = [] ∧ twoN t r s = [] ∧ twoC t r s = alikeC r s :=
  ⟨if_neg h, if_neg h, if_neg h, if_neg h⟩
theorem alike_of {r s : R} (h : alikeC r s = 0) : okB r = true ∧ okB s = true ∧ r.tapes = s.tapes := by
  unfold alikeC at h
  by_cases h1 : okB r = true
  · rw [if_pos h1] at h
    by_cases h2 : okB s = true
    · rw [if_pos h2] at h
      by_cases h3 : r.tapes = s.tapes
      · exact ⟨h1, h2, h3⟩
      · rw [if_neg h3] at h; omega
    · rw [if_neg h2] at h; omega
  · rw [if_neg h1] at h; omega

theorem bothI (a b : Bool) (W : World) : Calls Tryd.prog 42 #[.bool a, .bool b] W fun e w' => e = .returned (.bool ((fun a b => a && b) a b)) ∧ W = w' := by
  cases a <;> cases b <;> (go_enter Tryd.func42, Tryd.ntmps42; go_wp2_with fail; go_ret; exact ⟨rfl, rfl⟩)
end Go.Proofs.YtaimealknkhfbaaDoor.TwoImpl
