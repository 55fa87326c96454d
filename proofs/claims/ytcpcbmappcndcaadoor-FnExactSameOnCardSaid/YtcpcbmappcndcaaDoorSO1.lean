
/- The states of a relation in which two tapes bear the same word: two automata, by numbers.
   Conditions: stated at each theorem. -/
import Derived.Test.YtcpcbmappcndcaaDoorFX23
import Derived.Test.YtcpcbmappcndcaaDoorFX2
import Derived.Test.YtcpcbmappcndcaaDoorFX11
import Derived.Test.YtcpcbmappcndcaaDoorFX7
import Derived.Deep.RegionLaw
import Derived.Deep.RegionHeld3
import Derived.Deep.DrawnRows
namespace Go.Proofs.YtcpcbmappcndcaaDoor.SameMath
set_option linter.unusedVariables false
set_option linter.unusedSimpArgs false
open Go.RowKit Mem Copy Rel Valid Columns ColMath Numbers TidyMath TidyAuto TidyRight Sim PairMath SpecFiner

/-- Two tapes of a column bear another digit. -/
def offB (a b c : Nat) : Bool := decide (c / 3 ^ a % 3 ≠ c / 3 ^ b % 3)
/-- The automaton with a state that takes nothing. -/
def exN (l : L) (a b s c : Nat) : Nat := if s < l.acc.length then (if offB a b c = true then l.acc.length else (l.nx.getD s []).getD c 0) else l.acc.length
def exL (l : L) (a b : Nat) : L :=
  ⟨l.k, l.start, l.acc ++ [false], (List.range (l.acc.length + 1)).map fun s => (List.range (wide l.k)).map fun c => exN l a b s c⟩
def eqN (a b s c : Nat) : Nat := if offB a b c = true then 1 else s
def eqL (k a b : Nat) : L := ⟨k, 0, [true, false], (List.range 2).map fun s => (List.range (wide k)).map fun c => eqN a b s c⟩

theorem ex_len (l : L) (a b : Nat) : (exL l a b).acc.length = l.acc.length + 1 := by simp [exL]
theorem ex_get (l : L) (a b : Nat) {s c : Nat} (hs : s < l.acc.length + 1) (hc : c < wide l.k) : ((exL l a b).nx.getD s []).getD c 0 = exN l a b s c := by
  simp [exL, List.getD, hs, hc]
theorem ex_ok {l : L} (h : l.Ok) (a b : Nat) : (exL l a b).Ok := by
  refine ⟨h.k0, h.k3, ?_, ?_, fun s hs => ?_, fun s hs c hc => ?_⟩
  · rw [ex_len]; have := h.st; show l.start < _; omega
  · rw [ex_len]; simp [exL]
  · rw [ex_len] at hs; simp [exL, List.getD, hs]
  · rw [ex_len] at hs ⊢
    have hc' : c < wide l.k := hc
    rw [ex_get l a b hs hc']
    unfold exN
    split
    · split
      · omega
      · rename_i h1 h2; have := h.lt s h1 c hc'; omega
    · omega
theorem eq_get (k a b : Nat) {s c : Nat} (hs : s < 2) (hc : c < wide k) : ((eqL k a b).nx.getD s []).getD c 0 = eqN a b s c := by
  simp [eqL, List.getD, hs, hc]
theorem eq_ok {k : Nat} (h0 : 1 ≤ k) (h3 : k ≤ 3) (a b : Nat) : (eqL k a b).Ok := by
  refine ⟨h0, h3, by simp [eqL], by simp [eqL], fun s hs => ?_, fun s hs c hc => ?_⟩
  · have hs' : s < 2 := hs
    simp [eqL, List.getD, hs']
  · have hs' : s < 2 := hs
    have hc' : c < wide k := hc
    rw [eq_get k a b hs' hc']
    show eqN a b s c < 2
    unfold eqN
    split <;> omega
/-- What both take is the same. -/
theorem same_tidy {l : L} (h : l.Ok) (a b : Nat) : tidyAcc (pairL (fun x y => x && y) l (eqL l.k a b)) = tidyAcc (exL l a b) ∧ tidyNext (pairL (fun x y => x && y) l (eqL l.k a b)) = tidyNext (exL l a b) := by
  have he := eq_ok h.k0 h.k3 a b
  refine Pla.tidy (T := fun x s _ => (s < l.acc.length ∧ x = s * 2) ∨ (s = l.acc.length ∧ x < l.acc.length * 2 ∧ x % 2 = 1)) ⟨rfl, fun x s e hT => ?_, fun x s e hT c hc hf => ?_⟩ (pairL_ok _ h he rfl) (ex_ok h a b) (.inl ⟨h.st, rfl⟩)
  · have hx : x < l.acc.length * 2 := by omega
    have e1 : (pairL (fun x y => x && y) l (eqL l.k a b)).acc.getD x false = (l.acc.getD (x / 2) false && [true, false].getD (x % 2) false) := by
      show ((List.range (l.acc.length * 2)).map _).getD x false = _
      simp [List.getD, hx, eqL]
    have e2 : (exL l a b).acc.getD s false = (l.acc ++ [false]).getD s false := rfl
    rw [e1, e2]
    rcases hT with ⟨hs, rfl⟩ | ⟨rfl, -, hm⟩
    · rw [Nat.mul_div_cancel _ (by omega), Nat.mul_mod_left]
      simp [List.getD, hs, List.getElem?_append_left hs]
    · rw [hm]
      simp [List.getD]
  · have hx : x < l.acc.length * 2 := by omega
    have hc' : c < wide l.k := hc
    have e1 : ((pairL (fun x y => x && y) l (eqL l.k a b)).nx.getD x []).getD c 0 = (l.nx.getD (x / 2) []).getD c 0 * 2 + eqN a b (x % 2) c := by
      rw [← eq_get l.k a b (Nat.mod_lt x (by omega)) hc']
      show (((List.range (l.acc.length * 2)).map _).getD x []).getD c 0 = _
      simp [List.getD, hx, hc', eqL]
    have hs : s < l.acc.length + 1 := by omega
    rw [e1, ex_get l a b hs hc']
    have hlt := h.lt (x / 2) (by omega) c hc'
    unfold exN eqN
    rcases hT with ⟨hs1, rfl⟩ | ⟨rfl, hx2, hm⟩
    · rw [if_pos hs1, Nat.mul_div_cancel _ (by omega), Nat.mul_mod_left]
      rw [Nat.mul_div_cancel _ (by omega)] at hlt
      by_cases ho : offB a b c = true
      · rw [if_pos ho, if_pos ho]
        exact .inr ⟨rfl, by omega, by omega⟩
      · rw [if_neg ho, if_neg ho]
        exact .inl ⟨hlt, by omega⟩
    · rw [if_neg (Nat.lt_irrefl _), hm]
      refine .inr ⟨rfl, ?_, ?_⟩
      · split <;> omega
      · split <;> omega
/-- A column's letters on two tapes. -/
def letFine : Bool := (List.range 4).all fun k => (List.range 27).all fun c => (List.range 3).all fun a => (List.range 3).all fun b => !(decide (1 ≤ k) && decide (c < wide k) && decide (a < k) && decide (b < k)) || (decide (letT k (c : Nat) a ≠ letT k (c : Nat) b) == offB a b c)
theorem letFine_true : letFine = true := by decide +kernel
theorem let_off {k c a b : Nat} (h1 : 1 ≤ k) (h3 : k ≤ 3) (hc : c < wide k) (ha : a < k) (hb : b < k) : decide (letT k (c : Nat) a ≠ letT k (c : Nat) b) = offB a b c := by
  have h := letFine_true
  unfold letFine at h
  have hw := wide_cases h1 h3
  have hk := List.all_eq_true.1 h k (List.mem_range.2 (by omega))
  have hcc := List.all_eq_true.1 hk c (List.mem_range.2 (by omega))
  have haa := List.all_eq_true.1 hcc a (List.mem_range.2 (by omega))
  have hbb := List.all_eq_true.1 haa b (List.mem_range.2 (by omega))
  simpa [h1, hc, ha, hb] using hbb
end Go.Proofs.YtcpcbmappcndcaaDoor.SameMath
/- What the program's function that makes the automaton of pairs of states hands back.
   Conditions: stated at each theorem. -/
namespace Go.Proofs.YtcpcbmappcndcaaDoor.PairsI
set_option linter.unusedVariables false
set_option linter.unusedSimpArgs false
set_option maxRecDepth 100000
open Go.RowKit Mem Copy Rel Valid Heap Columns Bld TidyMath TidyAuto TidyRight SpecFiner SpecRight PairMath

/-- Two boxes, the result's block, and what is made behind them. -/
abbrev K3 (w : World) (c d : Array Value) (W : World) : Prop := Below (w.heap.size + 3) (((w.alloc (.cells c 27)).alloc (.cells d 27)).alloc (.cells #[Value.int .i64 0, .int .i64 0, .slice none 0 0, .slice none 0 0] 27)) W
theorem K3.size3 (w : World) (c d : Array Value) : (((w.alloc (.cells c 27)).alloc (.cells d 27)).alloc (.cells #[Value.int .i64 0, .int .i64 0, .slice none 0 0, .slice none 0 0] 27)).heap.size = w.heap.size + 3 := by rw [size_alloc', size_alloc', size_alloc']
theorem K3.size {w W : World} {c d : Array Value} (h : K3 w c d W) : w.heap.size + 3 ≤ W.heap.size := by have := Below.size h; rw [K3.size3] at this; exact this
theorem K3.base {w W : World} {c d : Array Value} (h : K3 w c d W) : Below w.heap.size w W :=
  (base_box (base_box (base_box (Below.refl _ w) _) _) _).trans (Below.mono h (by omega))
theorem K3.box1 {w W : World} {c d : Array Value} (h : K3 w c d W) : W.heap[w.heap.size]? = some (.cells c 27 (0, 0)) := by
  rw [Below.block h _ (by omega), Below.heap_alloc _ _ _ (by rw [size_alloc', size_alloc']; omega), Below.heap_alloc _ _ _ (by rw [size_alloc']; omega)]; exact heap_alloc_new _ _
theorem K3.box2 {w W : World} {c d : Array Value} (h : K3 w c d W) : W.heap[w.heap.size + 1]? = some (.cells d 27 (0, 0)) := by
  rw [Below.block h _ (by omega), Below.heap_alloc _ _ _ (by rw [size_alloc', size_alloc']; omega)]
  have := heap_alloc_new (w.alloc (.cells c 27)) (.cells d 27)
  rwa [size_alloc'] at this
theorem K3.res {w W : World} {c d : Array Value} (h : K3 w c d W) : W.heap[w.heap.size + 2]? = some (.cells #[Value.int .i64 0, .int .i64 0, .slice none 0 0, .slice none 0 0] 27 (0, 0)) := by
  rw [Below.block h _ (by omega)]
  have := heap_alloc_new ((w.alloc (.cells c 27)).alloc (.cells d 27)) (.cells #[Value.int .i64 0, .int .i64 0, .slice none 0 0, .slice none 0 0] 27)
  rwa [size_alloc', size_alloc'] at this

theorem rel_row (l : L) (p : Nat) : (relOf l).next.getD p [] = ofN (l.nx.getD p []) := by
  unfold relOf
  simp only [List.getD, List.getElem?_map]
  cases l.nx[p]? <;> rfl
theorem ofN_len (x : List Nat) : (ofN x).length = x.length := by simp [ofN]
theorem ofN_get (x : List Nat) (c : Nat) : (ofN x).getD c 0 = ((x.getD c 0 : Nat) : Int) := by
  unfold ofN
  simp only [List.getD, List.getElem?_map]
  cases x[c]? <;> rfl
/-- A relation in memory, cell by cell, whatever is made later. -/
theorem laid {w : World} {B : Nat} {v : Value} {l : L} (hl : l.Ok) (h : RelAt w B v (relOf l)) (hB : B ≤ w.heap.size) :
    ∃ (ba oa ca bb ob cb : Nat) (V : Nat → Value), v = .agg #[.int .i64 l.k, .int .i64 l.start, .slice (some ⟨ba, oa, none⟩) l.acc.length ca, .slice (some ⟨bb, ob, none⟩) l.acc.length cb] ∧ ba < w.heap.size ∧ bb < w.heap.size ∧
      (∀ W, Below w.heap.size w W → ∀ p, p < l.acc.length → W.cell? ⟨ba, oa + p, none⟩ = some (.bool (l.acc.getD p false)) ∧ W.cell? ⟨bb, ob + p, none⟩ = some (V p)) ∧
      ∀ p, p < l.acc.length → ∃ br or' cr, V p = .slice (some ⟨br, or', none⟩) (wide l.k) cr ∧ br < w.heap.size ∧ ∀ W, Below w.heap.size w W → ∀ c, c < wide l.k → W.cell? ⟨br, or' + c, none⟩ = some (.int .i64 ((l.nx.getD p []).getD c 0 : Nat)) := by
  have hl0 : 0 < l.acc.length := Nat.lt_of_le_of_lt (Nat.zero_le _) hl.st
  obtain ⟨va, vn, rfl, ha, hx⟩ := h
  obtain ⟨aa, ba, oa, ca, rfl, hma, haa, hca⟩ := ha
  obtain ⟨rfl, hba⟩ := haa hl0
  obtain ⟨V, hsl, hrows⟩ := hx
  obtain ⟨ab, bb, ob, cb, rfl, hmb, hab, hcb⟩ := hsl
  have hnl : (relOf l).next.length = l.acc.length := by show (l.nx.map ofN).length = _; rw [List.length_map]; exact hl.len
  rw [hnl] at hab hcb hrows ⊢
  obtain ⟨rfl, hbb⟩ := hab hl0
  refine ⟨ba, oa, ca, bb, ob, cb, V, rfl, by omega, by omega, fun W hW p hp => ⟨(hW.cell (p := ⟨ba, oa + p, none⟩) (show ba < w.heap.size by omega)).trans (hca p hp), (hW.cell (p := ⟨bb, ob + p, none⟩) (show bb < w.heap.size by omega)).trans (hcb p hp)⟩, fun p hp => ?_⟩
  have hr := hrows p hp
  rw [rel_row] at hr
  obtain ⟨ar, br, or', cr, hv, -, hra, hrc⟩ := hr
  have hlen : (ofN (l.nx.getD p [])).length = wide l.k := by rw [ofN_len]; exact hl.row p hp
  have hw := wide_cases hl.k0 hl.k3
  rw [hlen] at hv hra hrc
  obtain ⟨rfl, hbr⟩ := hra (by omega)
  refine ⟨br, or', cr, hv, by omega, fun W hW c hc => ?_⟩
  rw [hW.cell (p := ⟨br, or' + c, none⟩) (show br < w.heap.size by omega), hrc c hc]
  show some (Value.int .i64 ((ofN (l.nx.getD p [])).getD c 0)) = _
  rw [ofN_get]

set_option maxHeartbeats 16000000 in
theorem pairsI (t : Bool → Bool → Bool) (l m : L) (hl : l.Ok) (hm : m.Ok) (hk : l.k = m.k) (v u : Value) (fid : FuncId)
    (hcf : ∀ (args : Array Value) (W : World), (callFunc fid args).run Tryd.prog W = .ok (.enter fid args) W)
    (hT : ∀ a b W, Calls Tryd.prog fid #[.bool a, .bool b] W fun e w' => e = .returned (.bool (t a b)) ∧ W = w')
    (w : World) (B : Nat) (h : RelAt w B v (relOf l)) (h' : RelAt w B u (relOf m)) (hB : B ≤ w.heap.size) (hnm : l.acc.length * m.acc.length ≤ 1000) :
    Calls Tryd.prog 71 #[v, u, .func (.func fid) #[] #[]] w fun e w' => ∃ va vn, e = .returned (.agg #[.int .i64 (pairL t l m).k, .int .i64 (pairL t l m).start, va, vn]) ∧ Built w' w.heap.size va vn (pairL t l m).acc (relOf (pairL t l m)).next ∧ Below w.heap.size w w' := by
  have hl0 : 0 < l.acc.length := Nat.lt_of_le_of_lt (Nat.zero_le _) hl.st
  have hm0 : 0 < m.acc.length := Nat.lt_of_le_of_lt (Nat.zero_le _) hm.st
  obtain ⟨hs1, hs2⟩ := sides hl0 hm0 hnm
  obtain ⟨ba, oa, ca, bb, ob, cb, V, rfl, hba, hbb, hcell, hrowV⟩ := laid hl h hB
  obtain ⟨bc, oc, cc, bd, od, cd, U, rfl, hbc, hbd, hcell', hrowU⟩ := laid hm h' hB
  rw [← hk] at hrowU
  have hw26 : 0 < wide l.k ∧ wide l.k ≤ 26 := by have := wide_cases hl.k0 hl.k3; omega
  have HC1 := Lib.hid hcell
  have HC2 := Lib.hid hcell'
  have HV := Lib.hid hrowV
  have HU := Lib.hid hrowU
  have HTT := Lib.hid hT
  have HLL := Lib.hid (fun p (hp : p < l.acc.length) c (hc : c < wide l.k) => hl.lt p hp c hc)
  have HLM := Lib.hid (fun q (hq : q < m.acc.length) c (hc : c < wide l.k) => hm.lt q hq c (by rw [← hk]; exact hc))
  have HAT := Lib.hid (fun p q hp hq => acc_next t l m (p := p) (q := q) hp hq)
  have HNT := Lib.hid (fun p q hp hq => next_next t l m (p := p) (q := q) hp hq)
  have HALL := Lib.hid (show (pairL t l m).acc.take (l.acc.length * m.acc.length) = (pairL t l m).acc from List.take_of_length_le (by rw [pairL_len]; exact Nat.le_refl _))
  have HNLL := Lib.hid (show (relOf (pairL t l m)).next.take (l.acc.length * m.acc.length) = (relOf (pairL t l m)).next from List.take_of_length_le (by rw [rel_next_len]; exact Nat.le_refl _))
  have HALn := Lib.hid (show (pairL t l m).acc.length ≤ 1000 by rw [pairL_len]; exact hnm)
  have HNLn := Lib.hid (show (relOf (pairL t l m)).next.length ≤ 1000 by rw [rel_next_len]; exact hnm)
  have hP := mul_le_pair hl.st hm.st hnm
  have HSTP := Lib.hid (show (pairL t l m).start = l.start * m.acc.length + m.start from rfl)
  have HKP := Lib.hid (show (pairL t l m).k = l.k from rfl)
  have HML := Lib.hid (fun (x y : Nat) (hx : x < l.acc.length) (hy : y < m.acc.length) => mul_le_pair hx hy hnm)
  have HRP := Lib.hid (fun p q => show rowPQ l m p q = (List.range (wide l.k)).map fun c => (((l.nx.getD p []).getD c 0 * m.acc.length + (m.nx.getD q []).getD c 0 : Nat) : Int) from rfl)
  obtain ⟨AC, hAC⟩ : ∃ AC, AC = (pairL t l m).acc := ⟨_, rfl⟩
  obtain ⟨NX, hNX⟩ : ∃ NX, NX = (relOf (pairL t l m)).next := ⟨_, rfl⟩
  obtain ⟨KP, hKP⟩ : ∃ KP, KP = (pairL t l m).k := ⟨_, rfl⟩
  obtain ⟨SP, hSP⟩ : ∃ SP, SP = (pairL t l m).start := ⟨_, rfl⟩
  obtain ⟨n1, hn1⟩ : ∃ n, n = l.acc.length := ⟨_, rfl⟩
  obtain ⟨n2, hn2⟩ : ∃ n, n = m.acc.length := ⟨_, rfl⟩
  obtain ⟨wd, hwd⟩ : ∃ n, n = wide l.k := ⟨_, rfl⟩
  obtain ⟨k, hkk⟩ : ∃ n, n = l.k := ⟨_, rfl⟩
  obtain ⟨k2, hkk2⟩ : ∃ n, n = m.k := ⟨_, rfl⟩
  obtain ⟨st, hst⟩ : ∃ n, n = l.start := ⟨_, rfl⟩
  obtain ⟨st2, hst2⟩ : ∃ n, n = m.start := ⟨_, rfl⟩
  obtain ⟨fa, hfa⟩ : ∃ f : Nat → Bool, f = fun p => l.acc.getD p false := ⟨_, rfl⟩
  obtain ⟨fb, hfb⟩ : ∃ f : Nat → Bool, f = fun p => m.acc.getD p false := ⟨_, rfl⟩
  obtain ⟨fx, hfx⟩ : ∃ f : Nat → Nat → Nat, f = fun p c => (l.nx.getD p []).getD c 0 := ⟨_, rfl⟩
  obtain ⟨fy, hfy⟩ : ∃ f : Nat → Nat → Nat, f = fun p c => (m.nx.getD p []).getD c 0 := ⟨_, rfl⟩
  have HC1 := Lib.hid (show ∀ W, Below w.heap.size w W → ∀ p, p < n1 → W.cell? ⟨ba, oa + p, none⟩ = some (.bool (fa p)) ∧ W.cell? ⟨bb, ob + p, none⟩ = some (V p) from by rw [hn1, hfa]; exact HC1.out)
  have HC2 := Lib.hid (show ∀ W, Below w.heap.size w W → ∀ p, p < n2 → W.cell? ⟨bc, oc + p, none⟩ = some (.bool (fb p)) ∧ W.cell? ⟨bd, od + p, none⟩ = some (U p) from by rw [hn2, hfb]; exact HC2.out)
  have HV := Lib.hid (show ∀ p, p < n1 → ∃ br or' cr, V p = .slice (some ⟨br, or', none⟩) wd cr ∧ br < w.heap.size ∧ ∀ W, Below w.heap.size w W → ∀ c, c < wd → W.cell? ⟨br, or' + c, none⟩ = some (.int .i64 (fx p c : Nat)) from by rw [hn1, hwd, hfx]; exact HV.out)
  have HU := Lib.hid (show ∀ p, p < n2 → ∃ br or' cr, U p = .slice (some ⟨br, or', none⟩) wd cr ∧ br < w.heap.size ∧ ∀ W, Below w.heap.size w W → ∀ c, c < wd → W.cell? ⟨br, or' + c, none⟩ = some (.int .i64 (fy p c : Nat)) from by rw [hn2, hwd, hfy]; exact HU.out)
  have HLL := Lib.hid (show ∀ p, p < n1 → ∀ c, c < wd → fx p c < n1 from by rw [hn1, hwd, hfx]; exact HLL.out)
  have HLM := Lib.hid (show ∀ p, p < n2 → ∀ c, c < wd → fy p c < n2 from by rw [hn2, hwd, hfy]; exact HLM.out)
  have HAT := Lib.hid (show ∀ p q, p < n1 → q < n2 → AC.take (p * n2 + q + 1) = AC.take (p * n2 + q) ++ [t (fa p) (fb q)] from by rw [hn1, hn2, hAC, hfa, hfb]; exact HAT.out)
  have HNT := Lib.hid (show ∀ p q, p < n1 → q < n2 → NX.take (p * n2 + q + 1) = NX.take (p * n2 + q) ++ [rowPQ l m p q] from by rw [hn1, hn2, hNX]; exact HNT.out)
  have HRP := Lib.hid (show ∀ p q, (rowPQ l m p q).map (Value.int .i64) = tv wd fun c => ((fx p c * n2 + fy q c : Nat) : Int) from fun p q => by rw [hn2, hwd, hfx, hfy, HRP.out p q]; unfold tv; rw [List.map_map]; rfl)
  have HML := Lib.hid (show ∀ x y : Nat, x < n1 → y < n2 → x * n2 ≤ 1000 ∧ x * n2 + y ≤ 1000 from by rw [hn1, hn2]; exact HML.out)
  have HALL := Lib.hid (show AC.take (n1 * n2) = AC from by rw [hn1, hn2, hAC]; exact HALL.out)
  have HNLL := Lib.hid (show NX.take (n1 * n2) = NX from by rw [hn1, hn2, hNX]; exact HNLL.out)
  have HALn := Lib.hid (show AC.length ≤ 1000 from by rw [hAC]; exact HALn.out)
  have HNLn := Lib.hid (show NX.length ≤ 1000 from by rw [hNX]; exact HNLn.out)
  obtain ⟨P0, hP0⟩ : ∃ P0, P0 = st * n2 := ⟨_, rfl⟩
  have hmulS : (st : Int) * (n2 : Int) = (P0 : Int) := by rw [hP0]; exact (Int.natCast_mul st n2).symm
  have hP0a : P0 ≤ 1000 := by rw [hP0, hst, hn2]; exact hP.1
  have hP0b : P0 + st2 ≤ 1000 := by rw [hP0, hst, hn2, hst2]; exact hP.2
  have HSP := Lib.hid (show (SP : Int) = (P0 : Int) + st2 from by rw [hSP, HSTP.out, hP0, hst, hn2, hst2]; exact Int.natCast_add _ _)
  have HKP := Lib.hid (show (KP : Int) = (k : Int) from by rw [hKP, HKP.out, hkk])
  rw [← hn1] at hl0 hs1
  rw [← hn2] at hm0 hs2
  rw [← hwd] at hw26
  rw [← hAC, ← hNX, ← hKP, ← hSP, ← hn1, ← hn2, ← hkk, ← hkk2, ← hst, ← hst2]
  have hst01 : st ≤ 1000 := by have : st < n1 := by rw [hst, hn1]; exact hl.st
                               omega
  clear hAC hNX hKP hSP hn1 hn2 hwd hkk hkk2 hst hst2 hfa hfb hfx hfy hP0 hP hcell hcell' hrowV hrowU hT hk hl hm h h' hnm
  have HD0 := Lib.hid (show Bld ((((w.alloc (.cells #[.int .i64 k, .int .i64 st, .slice (some ⟨ba, oa, none⟩) n1 ca, .slice (some ⟨bb, ob, none⟩) n1 cb] 27)).alloc (.cells #[.int .i64 k2, .int .i64 st2, .slice (some ⟨bc, oc, none⟩) n2 cc, .slice (some ⟨bd, od, none⟩) n2 cd] 27)).alloc (.cells #[Value.int .i64 0, .int .i64 0, .slice none 0 0, .slice none 0 0] 27)).alloc (.cells #[.int .i64 k, .int .i64 ((P0 : Int) + st2), .slice none 0 0, .slice none 0 0] 27)) (w.heap.size + 3) (w.heap.size + 3) k ((P0 : Int) + st2) (.slice none 0 0) (.slice none 0 0) [] [] ((AC.take (0 * n2)).map Value.bool) from by
    rw [Nat.zero_mul]
    refine ⟨Own.nil _ _ _, Lst.nil _ _ _, Lst.nil _ _ _, ?_, Nat.le_refl _⟩
    rw [← K3.size3 w #[.int .i64 k, .int .i64 st, .slice (some ⟨ba, oa, none⟩) n1 ca, .slice (some ⟨bb, ob, none⟩) n1 cb] #[.int .i64 k2, .int .i64 st2, .slice (some ⟨bc, oc, none⟩) n2 cc, .slice (some ⟨bd, od, none⟩) n2 cd]]
    exact heap_alloc_new _ _)
  have HK0 := Lib.hid (show K3 w #[.int .i64 k, .int .i64 st, .slice (some ⟨ba, oa, none⟩) n1 ca, .slice (some ⟨bb, ob, none⟩) n1 cb] #[.int .i64 k2, .int .i64 st2, .slice (some ⟨bc, oc, none⟩) n2 cc, .slice (some ⟨bd, od, none⟩) n2 cd] ((((w.alloc (.cells #[.int .i64 k, .int .i64 st, .slice (some ⟨ba, oa, none⟩) n1 ca, .slice (some ⟨bb, ob, none⟩) n1 cb] 27)).alloc (.cells #[.int .i64 k2, .int .i64 st2, .slice (some ⟨bc, oc, none⟩) n2 cc, .slice (some ⟨bd, od, none⟩) n2 cd] 27)).alloc (.cells #[Value.int .i64 0, .int .i64 0, .slice none 0 0, .slice none 0 0] 27)).alloc (.cells #[.int .i64 k, .int .i64 ((P0 : Int) + st2), .slice none 0 0, .slice none 0 0] 27)) from (Below.refl _ _).alloc (by rw [K3.size3]; exact Nat.le_refl _) _)
  have hmk := run_make_row' (P := Tryd.prog) 45 2 (.int .i64 0) 8 Tryd.underlying45 info2 rfl .i64 .i64 wd (by omega) (by omega)
  go_enter Tryd.func71, Tryd.ntmps71
  go_wp2_with fail
  clear hmulS hP0a hP0b
  go_loopw [9, 10, 11, 12, 13, 14, 31, 39, 49] (fun _ _ _ _ _ _ s31 _ _ wr => ∃ (p : Nat) (va vn : Value) (items : List (Value × List Value)), p ≤ n1 ∧ s31 = .int .i64 p ∧ Bld wr (w.heap.size + 3) (w.heap.size + 3) k ((P0 : Int) + st2) va vn [] items ((AC.take (p * n2)).map Value.bool) ∧ items.map Prod.snd = (NX.take (p * n2)).map (fun x => x.map (Value.int .i64)) ∧ K3 w #[.int .i64 k, .int .i64 st, .slice (some ⟨ba, oa, none⟩) n1 ca, .slice (some ⟨bb, ob, none⟩) n1 cb] #[.int .i64 k2, .int .i64 st2, .slice (some ⟨bc, oc, none⟩) n2 cc, .slice (some ⟨bd, od, none⟩) n2 cd] wr) (fun _ _ _ _ _ _ s31 _ _ _ => n1 - (intOf s31).toNat)
  case atStart => exact ⟨0, _, _, [], Nat.zero_le _, rfl, HD0.out, by rw [Nat.zero_mul]; rfl, HK0.out⟩
  case round =>
    obtain ⟨p, va, vn, items, hp, rfl, hd, hi, hk⟩ := hrel
    have HD := Lib.hid hd
    have HI := Lib.hid hi
    have HK := Lib.hid hk
    clear hd hi HD0 HK0
    by_cases hlp : p < n1
    · have cV := (HC1.out _ (K3.base hk) p hlp).2
      obtain ⟨br, or', cr, hv, hbr, hrc⟩ := HV.out p hlp
      rw [hv] at cV
      have HX := Lib.hid hrc
      have hbx := K3.box2 hk
      have y3 := cells_get hbx 3
      simp at y3
      have hp0 : (0 : Int) ≤ (p : Int) := Int.natCast_nonneg _
      have hp1 : (p : Int) < (n1 : Int) := by omega
      have hHD1 := Lib.hid (show Bld wr (w.heap.size + 3) (w.heap.size + 3) k ((P0 : Int) + st2) va vn [] items ((AC.take (p * n2 + 0)).map Value.bool) from HD.out)
      clear hv hrc hbx hk HD
      go_wp2_with fail
      go_loopw [11, 12, 13, 14, 39, 49] (fun _ _ _ _ s39 _ wr2 => ∃ (q : Nat) (va vn : Value) (items : List (Value × List Value)), q ≤ n2 ∧ s39 = .int .i64 q ∧ Bld wr2 (w.heap.size + 3) (w.heap.size + 3) k ((P0 : Int) + st2) va vn [] items ((AC.take (p * n2 + q)).map Value.bool) ∧ items.map Prod.snd = (NX.take (p * n2 + q)).map (fun x => x.map (Value.int .i64)) ∧ K3 w #[.int .i64 k, .int .i64 st, .slice (some ⟨ba, oa, none⟩) n1 ca, .slice (some ⟨bb, ob, none⟩) n1 cb] #[.int .i64 k2, .int .i64 st2, .slice (some ⟨bc, oc, none⟩) n2 cc, .slice (some ⟨bd, od, none⟩) n2 cd] wr2) (fun _ _ _ _ s39 _ _ => n2 - (intOf s39).toNat)
      case atStart => exact ⟨0, va, vn, items, Nat.zero_le _, rfl, hHD1.out, HI.out, HK.out⟩
      case round =>
        obtain ⟨q, va, vn, items, hq, rfl, hd, hi, hk⟩ := hrel
        have HD := Lib.hid hd
        have HI := Lib.hid hi
        have HK := Lib.hid hk
        clear hd hi hHD1 cV y3
        by_cases hlq : q < n2
        · have cU := (HC2.out _ (K3.base hk) q hlq).2
          obtain ⟨bs, os, cs, hv, hbs, hsc⟩ := HU.out q hlq
          rw [hv] at cU
          have HY := Lib.hid hsc
          have hq0 : (0 : Int) ≤ (q : Int) := Int.natCast_nonneg _
          have hq1 : (q : Int) < (n2 : Int) := by omega
          obtain ⟨g, hg⟩ : ∃ g, g = wr.heap.size := ⟨_, rfl⟩
          have HGS := Lib.hid (show w.heap.size + 3 ≤ g from by rw [hg]; exact K3.size hk)
          obtain ⟨PQ, hPQ⟩ : ∃ PQ : Nat → Int, PQ = fun c => ((fx p c * n2 + fy q c : Nat) : Int) := ⟨_, rfl⟩
          have HPQ := Lib.hid hPQ
          have HA1 := Lib.hid (show Bld (wr.alloc (.cells (madeCells #[Value.int .i64 0] wd) 2)) (w.heap.size + 3) (w.heap.size + 3) k ((P0 : Int) + st2) va vn [(.slice (some ⟨g, 0, none⟩) wd wd, tv wd fun c => if c < 0 then PQ c else 0)] items ((AC.take (p * n2 + q)).map Value.bool) from by
            have h1 := Lst.made wr (w.heap.size + 3) 2 (.int .i64 0) wd (K3.size hk) (by unfold maxLen; omega)
            rw [tv_rep] at h1
            rw [hg]
            exact HD.out.addInt ((Below.refl _ _).alloc (Nat.le_refl _) _) h1 (fun x hx => by cases hx; exact Nat.le_refl _))
          have HB1 := Lib.hid (show K3 w #[.int .i64 k, .int .i64 st, .slice (some ⟨ba, oa, none⟩) n1 ca, .slice (some ⟨bb, ob, none⟩) n1 cb] #[.int .i64 k2, .int .i64 st2, .slice (some ⟨bc, oc, none⟩) n2 cc, .slice (some ⟨bd, od, none⟩) n2 cd] (wr.alloc (.cells (madeCells #[Value.int .i64 0] wd) 2)) from Below.alloc hk (K3.size hk) _)
          clear hv hsc hPQ hk
          go_wp2_with fail
          rw [← hg]
          clear hg
          go_loopw [14, 49] (fun _ s49 wr3 => ∃ c : Nat, c ≤ wd ∧ s49 = .int .i64 c ∧ Bld wr3 (w.heap.size + 3) (w.heap.size + 3) k ((P0 : Int) + st2) va vn [(.slice (some ⟨g, 0, none⟩) wd wd, tv wd fun j => if j < c then PQ j else 0)] items ((AC.take (p * n2 + q)).map Value.bool) ∧ K3 w #[.int .i64 k, .int .i64 st, .slice (some ⟨ba, oa, none⟩) n1 ca, .slice (some ⟨bb, ob, none⟩) n1 cb] #[.int .i64 k2, .int .i64 st2, .slice (some ⟨bc, oc, none⟩) n2 cc, .slice (some ⟨bd, od, none⟩) n2 cd] wr3) (fun _ s49 _ => wd - (intOf s49).toNat)
          case atStart => exact ⟨0, Nat.zero_le _, rfl, HA1.out, HB1.out⟩
          case round =>
            obtain ⟨c, hc, rfl, hd, hk⟩ := hrel
            have HD2 := Lib.hid hd
            have HK2 := Lib.hid hk
            clear hd HA1 HB1 cU
            by_cases hlc : c < wd
            · have cx := HX.out _ (K3.base hk) c hlc
              have cy := HY.out _ (K3.base hk) c hlc
              obtain ⟨x, hx⟩ : ∃ x, x = fx p c := ⟨_, rfl⟩
              obtain ⟨y, hy⟩ : ∃ y, y = fy q c := ⟨_, rfl⟩
              have hxn : x < n1 := by rw [hx]; exact HLL.out p hlp c hlc
              have hyn : y < n2 := by rw [hy]; exact HLM.out q hlq c hlc
              obtain ⟨hP1, hP2⟩ := HML.out x y hxn hyn
              obtain ⟨P, hP⟩ : ∃ P, P = x * n2 := ⟨_, rfl⟩
              have hmul : (x : Int) * (n2 : Int) = (P : Int) := by rw [hP]; exact (Int.natCast_mul x n2).symm
              rw [← hP] at hP1 hP2
              have HPV := Lib.hid (show PQ c = (P : Int) + (y : Int) from by rw [HPQ.out, hP, hx, hy]; exact Int.natCast_add _ _)
              rw [← hx] at cx
              rw [← hy] at cy
              have c9 := (Own.get [] _ HD2.out.own).cellOf (i := c) (by rw [tv_length]; exact hlc)
              have f9 := (Own.get [] _ HD2.out.own).free c
              rw [tv_get, if_neg (Nat.lt_irrefl c)] at c9
              have hgl := (Own.get [] _ HD2.out.own).lt (k := g) rfl
              have hc0 : (0 : Int) ≤ (c : Int) := Int.natCast_nonneg _
              have hc1 : (c : Int) < (wd : Int) := by omega
              have HSET := Lib.hid (show Bld (wr.drew.setCell ⟨g, c, none⟩ (.int .i64 ((P : Int) + (y : Int)))) (w.heap.size + 3) (w.heap.size + 3) k ((P0 : Int) + st2) va vn [(.slice (some ⟨g, 0, none⟩) wd wd, tv wd fun j => if j < c + 1 then PQ j else 0)] items ((AC.take (p * n2 + q)).map Value.bool) from by
                have h1 := Bld.setInt [] [] (i := c) HD2.out.drew (by rw [tv_length]; exact hlc) (.int .i64 ((P : Int) + (y : Int)))
                rw [tv_set, ← HPV.out] at h1
                rw [← HPV.out, show (fun j => if j < c + 1 then PQ j else 0) = (fun j => if j = c then PQ c else if j < c then PQ j else 0) from funext fun j => by
                  by_cases e : j = c
                  · subst e; simp
                  · have : (j < c + 1) = (j < c) := by apply propext; constructor <;> intro h <;> omega
                    simp only [if_neg e, this]]
                exact h1)
              have HKS := Lib.hid (show K3 w #[.int .i64 k, .int .i64 st, .slice (some ⟨ba, oa, none⟩) n1 ca, .slice (some ⟨bb, ob, none⟩) n1 cb] #[.int .i64 k2, .int .i64 st2, .slice (some ⟨bc, oc, none⟩) n2 cc, .slice (some ⟨bd, od, none⟩) n2 cd] (wr.drew.setCell ⟨g, c, none⟩ (.int .i64 ((P : Int) + (y : Int)))) from (Below.drew HK2.out).setCell (p := ⟨g, c, none⟩) HGS.out _)
              clear hx hy hP hk
              go_wp2_with fail
              go_region
              all_goals
                go_wp2_with fail
                go_roundw
                case rel => exact ⟨c + 1, hlc, by go_num, HSET.out, HKS.out⟩
                case measure => simp [intOf]; omega
            · obtain rfl : c = wd := by omega
              have HD3 := Lib.hid (show Bld wr (w.heap.size + 3) (w.heap.size + 3) k ((P0 : Int) + st2) va vn [(.slice (some ⟨g, 0, none⟩) c c, (rowPQ l m p q).map (Value.int .i64))] items ((AC.take (p * n2 + q)).map Value.bool) from by
                rw [HRP.out p q]
                have h1 := HD2.out
                rw [tv_congr (S := fun c => ((fx p c * n2 + fy q c : Nat) : Int)) (fun i hi => by rw [if_pos hi, HPQ.out])] at h1
                exact h1)
              have x2 := HD2.out.c2
              have hlZ := HD2.out.lt
              have hszk : w.heap.size + 3 ≤ wr.heap.size := K3.size hk
              obtain ⟨a, ha⟩ : ∃ a, a = fa p := ⟨_, rfl⟩
              obtain ⟨b, hb⟩ : ∃ b, b = fb q := ⟨_, rfl⟩
              have HTV := Lib.hid (fun W => HTT.out a b W)
              have HNA := Lib.hid (HAT.out p q hlp hlq)
              rw [← ha, ← hb] at HNA
              have HALE := Lib.hid (show ((AC.take (p * n2 + q)).map Value.bool).length ≤ 100000000 by rw [List.length_map, List.length_take]; have := HALn.out; omega)
              obtain ⟨aa, na, cna, rfl, -⟩ := HD2.out.acc.shape'
              obtain ⟨tb, htb⟩ : ∃ tb, tb = t a b := ⟨_, rfl⟩
              rw [← htb] at HTV HNA
              have HDD := Lib.hid HD3.out.drew
              have HKD := Lib.hid (show K3 w #[.int .i64 k, .int .i64 st, .slice (some ⟨ba, oa, none⟩) n1 ca, .slice (some ⟨bb, ob, none⟩) n1 cb] #[.int .i64 k2, .int .i64 st2, .slice (some ⟨bc, oc, none⟩) n2 cc, .slice (some ⟨bd, od, none⟩) n2 cd] wr.drew from Below.drew HK2.out)
              have HS4 := Lib.hid (show ∀ W, K3 w #[.int .i64 k, .int .i64 st, .slice (some ⟨ba, oa, none⟩) n1 ca, .slice (some ⟨bb, ob, none⟩) n1 cb] #[.int .i64 k2, .int .i64 st2, .slice (some ⟨bc, oc, none⟩) n2 cc, .slice (some ⟨bd, od, none⟩) n2 cd] W → W.cell? ⟨w.heap.size, 2, none⟩ = some (.slice (some ⟨ba, oa, none⟩) n1 ca) ∧ W.cell? ⟨ba, oa + p, none⟩ = some (.bool a) ∧ W.cell? ⟨w.heap.size + 1, 2, none⟩ = some (.slice (some ⟨bc, oc, none⟩) n2 cc) ∧ W.cell? ⟨bc, oc + q, none⟩ = some (.bool b) from fun W hW => ⟨by have := cells_get (K3.box1 hW) 2; simp at this; exact this, by rw [ha]; exact (HC1.out W (K3.base hW) p hlp).1, by have := cells_get (K3.box2 hW) 2; simp at this; exact this, by rw [hb]; exact (HC2.out W (K3.base hW) q hlq).1⟩)
              clear ha hb hk HD2 htb
              go_upto_region 15 with fail
              go_cut [] (fun wx => ∃ va', Bld wx (w.heap.size + 3) (w.heap.size + 3) k ((P0 : Int) + st2) va' vn [(.slice (some ⟨g, 0, none⟩) c c, (rowPQ l m p q).map (Value.int .i64))] items ((AC.take (p * n2 + q)).map Value.bool ++ [.bool tb]) ∧ K3 w #[.int .i64 k, .int .i64 st, .slice (some ⟨ba, oa, none⟩) n1 ca, .slice (some ⟨bb, ob, none⟩) n1 cb] #[.int .i64 k2, .int .i64 st2, .slice (some ⟨bc, oc, none⟩) n2 cc, .slice (some ⟨bd, od, none⟩) n2 cd] wx)
              case first =>
                refine wp_region_held_drew (S := (fun w' => w'.cell? ⟨w.heap.size, 2, none⟩ = some (.slice (some ⟨ba, oa, none⟩) n1 ca) ∧ w'.cell? ⟨ba, oa + p, none⟩ = some (.bool a) ∧ w'.cell? ⟨w.heap.size + 1, 2, none⟩ = some (.slice (some ⟨bc, oc, none⟩) n2 cc) ∧ w'.cell? ⟨bc, oc + q, none⟩ = some (.bool b))) (by kernel_rfl) ?hS (fun hHeld => ?hR)
                case hS => (first | exact HS4.out _ HKD.out | exact HS4.out _ (Below.alloc HKD.out (K3.size HKD.out) _) | exact HS4.out _ HKW.out | exact HS4.out _ HK6.out)
                refine wpAnyH_take (i := 0) (v := ?v1) rfl (by kernel_rfl) (by kernel_rfl) (by kernel_rfl) (fun _ _ _ h => h) (Or.inl ⟨by rfl, ?y1⟩) (by assumption) ?r1
                case y1 => (intro W hSw; (try dsimp only at hSw); go_simp; try with_reducible rfl)
                (try simp only [Act.put, List.setIfInBounds_toArray, List.set_cons_zero, List.set_cons_succ])
                refine wpAnyH_take (i := 2) (v := ?v2) rfl (by kernel_rfl) (by kernel_rfl) (by kernel_rfl) (fun _ _ _ h => h) (Or.inl ⟨by rfl, ?y2⟩) (by assumption) ?r2
                case y2 => (intro W hSw; (try dsimp only at hSw); go_simp; try with_reducible rfl)
                (try simp only [Act.put, List.setIfInBounds_toArray, List.set_cons_zero, List.set_cons_succ])
                refine wpAnyH_take (i := 3) (v := ?v3) rfl (by kernel_rfl) (by kernel_rfl) (by kernel_rfl) (fun _ _ _ h => h) (Or.inl ⟨by rfl, ?y3⟩) (by assumption) ?r3
                case y3 => (intro W hSw; (try dsimp only at hSw); go_simp; try with_reducible rfl)
                (try simp only [Act.put, List.setIfInBounds_toArray, List.set_cons_zero, List.set_cons_succ])
                refine wpAnyH_take (i := 4) (v := ?v4) rfl (by kernel_rfl) (by kernel_rfl) (by kernel_rfl) (fun _ _ _ h => h) (Or.inl ⟨by rfl, ?y4⟩) (by assumption) ?r4
                case y4 => (intro W hSw; (try dsimp only at hSw); go_simp; try with_reducible rfl)
                (try simp only [Act.put, List.setIfInBounds_toArray, List.set_cons_zero, List.set_cons_succ])
                refine wpAnyH_take (i := 5) (v := ?v5) rfl (by kernel_rfl) (by kernel_rfl) (by kernel_rfl) (fun _ _ _ h => h) (Or.inl ⟨by rfl, ?y5⟩) (by assumption) ?r5
                case y5 => (intro W hSw; (try dsimp only at hSw); go_simp; try with_reducible rfl)
                (try simp only [Act.put, List.setIfInBounds_toArray, List.set_cons_zero, List.set_cons_succ])
                refine wpAnyH_take (i := 6) (v := ?v6) rfl (by kernel_rfl) (by kernel_rfl) (by kernel_rfl) (fun _ _ _ h => h) (Or.inl ⟨by rfl, ?y6⟩) (by assumption) ?r6
                case y6 => (intro W hSw; (try dsimp only at hSw); go_simp; try with_reducible rfl)
                (try simp only [Act.put, List.setIfInBounds_toArray, List.set_cons_zero, List.set_cons_succ])
                refine wpAnyH_take (i := 7) (v := ?v7) rfl (by kernel_rfl) (by kernel_rfl) (by kernel_rfl) (fun _ _ _ h => h) (Or.inl ⟨by rfl, ?y7⟩) (by assumption) ?r7
                case y7 => (intro W hSw; (try dsimp only at hSw); go_simp; try with_reducible rfl)
                (try simp only [Act.put, List.setIfInBounds_toArray, List.set_cons_zero, List.set_cons_succ])
                refine wpAnyH_take (i := 8) (v := ?v8) rfl (by kernel_rfl) (by kernel_rfl) (by kernel_rfl) (fun _ _ _ h => h) (Or.inl ⟨by rfl, ?y8⟩) (by assumption) ?r8
                case y8 => (intro W hSw; (try dsimp only at hSw); go_simp; try with_reducible rfl)
                (try simp only [Act.put, List.setIfInBounds_toArray, List.set_cons_zero, List.set_cons_succ])
                refine wpAnyH_take (i := 9) (v := ?v9) rfl (by kernel_rfl) (by kernel_rfl) (by kernel_rfl) (fun _ _ _ h => h) (Or.inl ⟨by rfl, ?y9⟩) (by assumption) ?r9
                case y9 => (intro W hSw; (try dsimp only at hSw); go_simp; try with_reducible rfl)
                (try simp only [Act.put, List.setIfInBounds_toArray, List.set_cons_zero, List.set_cons_succ])
                refine wpAnyH_take (i := 10) (v := ?v10) rfl (by kernel_rfl) (by kernel_rfl) (by kernel_rfl) (fun _ _ _ h => h) (Or.inl ⟨by rfl, ?y10⟩) (by assumption) ?r10
                case y10 => (intro W hSw; (try dsimp only at hSw); go_simp; try with_reducible rfl)
                (try simp only [Act.put, List.setIfInBounds_toArray, List.set_cons_zero, List.set_cons_succ])
                refine wpAnyH_take (i := 11) (v := ?v11) rfl (by kernel_rfl) (by kernel_rfl) (by kernel_rfl) (fun _ _ _ h => h) (Or.inl ⟨by rfl, ?y11⟩) (by assumption) ?r11
                case y11 => (intro W hSw; (try dsimp only at hSw); go_simp; try with_reducible rfl)
                (try simp only [Act.put, List.setIfInBounds_toArray, List.set_cons_zero, List.set_cons_succ])
                refine wpAnyH_take (i := 12) (v := ?v12) rfl (by kernel_rfl) (by kernel_rfl) (by kernel_rfl) (fun _ _ _ h => h) (Or.inl ⟨by rfl, ?y12⟩) (by assumption) ?r12
                case y12 => (intro W hSw; (try dsimp only at hSw); go_simp; try with_reducible rfl)
                (try simp only [Act.put, List.setIfInBounds_toArray, List.set_cons_zero, List.set_cons_succ])
                refine wpAnyH_ready (rs := [1, 13]) (by kernel_rfl) (by simp) ?_
                refine AllReadyH.cons rfl (fun K hK => ?_) (AllReadyH.cons rfl (fun K hK => ?_) AllReadyH.nil)
                · go_simp
                  refine hK.out _ _ (by (first | exact HS4.out _ HKD.out | exact HS4.out _ (Below.alloc HKD.out (K3.size HKD.out) _) | exact HS4.out _ HKW.out | exact HS4.out _ HK6.out)) (fun hHeld => ?_)
                  clear hK K
                  (try simp only [Act.put, List.setIfInBounds_toArray, List.set_cons_zero, List.set_cons_succ])
                  refine wpAnyH_ready (rs := [13]) (by kernel_rfl) (by simp) ?_
                  refine AllReadyH.cons rfl (fun K hK => ?_) AllReadyH.nil
                  · (go_simp; refine (HTV.out _).mono ?_; rintro e w5 ⟨rfl, rfl⟩; try dsimp only)
                    refine hK.out _ _ (by (first | exact HS4.out _ HKD.out | exact HS4.out _ (Below.alloc HKD.out (K3.size HKD.out) _) | exact HS4.out _ HKW.out | exact HS4.out _ HK6.out)) (fun hHeld => ?_)
                    clear hK K
                    (try simp only [Act.put, List.setIfInBounds_toArray, List.set_cons_zero, List.set_cons_succ])
                    refine wpAnyH_ready (rs := [14]) (by kernel_rfl) (by simp) ?_
                    refine AllReadyH.cons rfl (fun K hK => ?_) AllReadyH.nil
                    · go_simp
                      refine hK.out _ _ (by (first | exact HS4.out _ HKD.out | exact HS4.out _ (Below.alloc HKD.out (K3.size HKD.out) _) | exact HS4.out _ HKW.out | exact HS4.out _ HK6.out)) (fun hHeld => ?_)
                      clear hK K
                      (try simp only [Act.put, List.setIfInBounds_toArray, List.set_cons_zero, List.set_cons_succ])
                      refine wpAnyH_ready (rs := [15]) (by kernel_rfl) (by simp) ?_
                      refine AllReadyH.cons rfl (fun K hK => ?_) AllReadyH.nil
                      · (refine step_push (by rfl) _ _ 22 (by rfl) 4 (.bool false) 1 Tryd.underlying22 info4 (by decide) (by decide) (w.heap.size + 3) (.slice aa na cna) _ (.bool tb) HDD.out.acc (K3.size HKD.out) (by rfl) HALE.out (by rfl) _ (by rfl) (by rfl) ?_; intro v6 w6 hp6; obtain ⟨a6, n6, c6, rfl, -⟩ := hp6.lst.shape'; have o6 := HDD.out.obAcc hp6; have q6 := (cells_get o6 2); have z6 := cells_free o6 2; have hl6 := (lt_of_block o6); have HE6 := Lib.hid (show Bld (w6.setCell ⟨w.heap.size + 3, 2, none⟩ (.slice a6 n6 c6)) (w.heap.size + 3) (w.heap.size + 3) k ((P0 : Int) + st2) (.slice a6 n6 c6) vn [(.slice (some ⟨g, 0, none⟩) c c, (rowPQ l m p q).map (Value.int .i64))] items ((AC.take (p * n2 + q)).map Value.bool ++ [.bool tb]) from HDD.out.pushAcc hp6); have HKW := Lib.hid (show K3 w #[.int .i64 k, .int .i64 st, .slice (some ⟨ba, oa, none⟩) n1 ca, .slice (some ⟨bb, ob, none⟩) n1 cb] #[.int .i64 k2, .int .i64 st2, .slice (some ⟨bc, oc, none⟩) n2 cc, .slice (some ⟨bd, od, none⟩) n2 cd] w6 from HKD.out.grown hp6.grow (K3.size HKD.out) (fun x hx => HDD.out.acc.ge hx)); have HK6 := Lib.hid (show K3 w #[.int .i64 k, .int .i64 st, .slice (some ⟨ba, oa, none⟩) n1 ca, .slice (some ⟨bb, ob, none⟩) n1 cb] #[.int .i64 k2, .int .i64 st2, .slice (some ⟨bc, oc, none⟩) n2 cc, .slice (some ⟨bd, od, none⟩) n2 cd] (w6.setCell ⟨w.heap.size + 3, 2, none⟩ (.slice a6 n6 c6)) from HKW.out.setCell (p := ⟨w.heap.size + 3, 2, none⟩) (Nat.le_refl _) _); simp at q6; clear hp6 o6)
                        refine hK.out _ _ (by (first | exact HS4.out _ HKD.out | exact HS4.out _ (Below.alloc HKD.out (K3.size HKD.out) _) | exact HS4.out _ HKW.out | exact HS4.out _ HK6.out)) (fun hHeld => ?_)
                        clear hK K
                        (try simp only [Act.put, List.setIfInBounds_toArray, List.set_cons_zero, List.set_cons_succ])
                        refine wpAnyH_take (i := 16) (v := ?v13) rfl (by kernel_rfl) (by kernel_rfl) (by kernel_rfl) (fun _ _ _ h => h) (Or.inl ⟨by rfl, ?y13⟩) (by assumption) ?r13
                        case y13 => (intro W hSw; (try dsimp only at hSw); go_simp; try with_reducible rfl)
                        (try simp only [Act.put, List.setIfInBounds_toArray, List.set_cons_zero, List.set_cons_succ])
                        refine wpAnyH_ready (rs := [17]) (by kernel_rfl) (by simp) ?_
                        refine AllReadyH.cons rfl (fun K hK => ?_) AllReadyH.nil
                        · go_simp
                          refine hK.out _ _ (by (first | exact HS4.out _ HKD.out | exact HS4.out _ (Below.alloc HKD.out (K3.size HKD.out) _) | exact HS4.out _ HKW.out | exact HS4.out _ HK6.out)) (fun hHeld => ?_)
                          clear hK K
                          (try simp only [Act.put, List.setIfInBounds_toArray, List.set_cons_zero, List.set_cons_succ])
                          refine wpAnyH_done (by kernel_rfl) ?_ _
                          go_wp2_with fail
                          go_meet
                          exact ⟨_, HE6.out, HK6.out⟩
                · (go_simp; refine (HTV.out _).mono ?_; rintro e w5 ⟨rfl, rfl⟩; try dsimp only)
                  refine hK.out _ _ (by (first | exact HS4.out _ HKD.out | exact HS4.out _ (Below.alloc HKD.out (K3.size HKD.out) _) | exact HS4.out _ HKW.out | exact HS4.out _ HK6.out)) (fun hHeld => ?_)
                  clear hK K
                  (try simp only [Act.put, List.setIfInBounds_toArray, List.set_cons_zero, List.set_cons_succ])
                  refine wpAnyH_ready (rs := [1, 14]) (by kernel_rfl) (by simp) ?_
                  refine AllReadyH.cons rfl (fun K hK => ?_) (AllReadyH.cons rfl (fun K hK => ?_) AllReadyH.nil)
                  · go_simp
                    refine hK.out _ _ (by (first | exact HS4.out _ HKD.out | exact HS4.out _ (Below.alloc HKD.out (K3.size HKD.out) _) | exact HS4.out _ HKW.out | exact HS4.out _ HK6.out)) (fun hHeld => ?_)
                    clear hK K
                    (try simp only [Act.put, List.setIfInBounds_toArray, List.set_cons_zero, List.set_cons_succ])
                    refine wpAnyH_ready (rs := [14]) (by kernel_rfl) (by simp) ?_
                    refine AllReadyH.cons rfl (fun K hK => ?_) AllReadyH.nil
                    · go_simp
                      refine hK.out _ _ (by (first | exact HS4.out _ HKD.out | exact HS4.out _ (Below.alloc HKD.out (K3.size HKD.out) _) | exact HS4.out _ HKW.out | exact HS4.out _ HK6.out)) (fun hHeld => ?_)
                      clear hK K
                      (try simp only [Act.put, List.setIfInBounds_toArray, List.set_cons_zero, List.set_cons_succ])
                      refine wpAnyH_ready (rs := [15]) (by kernel_rfl) (by simp) ?_
                      refine AllReadyH.cons rfl (fun K hK => ?_) AllReadyH.nil
                      · (refine step_push (by rfl) _ _ 22 (by rfl) 4 (.bool false) 1 Tryd.underlying22 info4 (by decide) (by decide) (w.heap.size + 3) (.slice aa na cna) _ (.bool tb) HDD.out.acc (K3.size HKD.out) (by rfl) HALE.out (by rfl) _ (by rfl) (by rfl) ?_; intro v6 w6 hp6; obtain ⟨a6, n6, c6, rfl, -⟩ := hp6.lst.shape'; have o6 := HDD.out.obAcc hp6; have q6 := (cells_get o6 2); have z6 := cells_free o6 2; have hl6 := (lt_of_block o6); have HE6 := Lib.hid (show Bld (w6.setCell ⟨w.heap.size + 3, 2, none⟩ (.slice a6 n6 c6)) (w.heap.size + 3) (w.heap.size + 3) k ((P0 : Int) + st2) (.slice a6 n6 c6) vn [(.slice (some ⟨g, 0, none⟩) c c, (rowPQ l m p q).map (Value.int .i64))] items ((AC.take (p * n2 + q)).map Value.bool ++ [.bool tb]) from HDD.out.pushAcc hp6); have HKW := Lib.hid (show K3 w #[.int .i64 k, .int .i64 st, .slice (some ⟨ba, oa, none⟩) n1 ca, .slice (some ⟨bb, ob, none⟩) n1 cb] #[.int .i64 k2, .int .i64 st2, .slice (some ⟨bc, oc, none⟩) n2 cc, .slice (some ⟨bd, od, none⟩) n2 cd] w6 from HKD.out.grown hp6.grow (K3.size HKD.out) (fun x hx => HDD.out.acc.ge hx)); have HK6 := Lib.hid (show K3 w #[.int .i64 k, .int .i64 st, .slice (some ⟨ba, oa, none⟩) n1 ca, .slice (some ⟨bb, ob, none⟩) n1 cb] #[.int .i64 k2, .int .i64 st2, .slice (some ⟨bc, oc, none⟩) n2 cc, .slice (some ⟨bd, od, none⟩) n2 cd] (w6.setCell ⟨w.heap.size + 3, 2, none⟩ (.slice a6 n6 c6)) from HKW.out.setCell (p := ⟨w.heap.size + 3, 2, none⟩) (Nat.le_refl _) _); simp at q6; clear hp6 o6)
                        refine hK.out _ _ (by (first | exact HS4.out _ HKD.out | exact HS4.out _ (Below.alloc HKD.out (K3.size HKD.out) _) | exact HS4.out _ HKW.out | exact HS4.out _ HK6.out)) (fun hHeld => ?_)
                        clear hK K
                        (try simp only [Act.put, List.setIfInBounds_toArray, List.set_cons_zero, List.set_cons_succ])
                        refine wpAnyH_take (i := 16) (v := ?v14) rfl (by kernel_rfl) (by kernel_rfl) (by kernel_rfl) (fun _ _ _ h => h) (Or.inl ⟨by rfl, ?y14⟩) (by assumption) ?r14
                        case y14 => (intro W hSw; (try dsimp only at hSw); go_simp; try with_reducible rfl)
                        (try simp only [Act.put, List.setIfInBounds_toArray, List.set_cons_zero, List.set_cons_succ])
                        refine wpAnyH_ready (rs := [17]) (by kernel_rfl) (by simp) ?_
                        refine AllReadyH.cons rfl (fun K hK => ?_) AllReadyH.nil
                        · go_simp
                          refine hK.out _ _ (by (first | exact HS4.out _ HKD.out | exact HS4.out _ (Below.alloc HKD.out (K3.size HKD.out) _) | exact HS4.out _ HKW.out | exact HS4.out _ HK6.out)) (fun hHeld => ?_)
                          clear hK K
                          (try simp only [Act.put, List.setIfInBounds_toArray, List.set_cons_zero, List.set_cons_succ])
                          refine wpAnyH_done (by kernel_rfl) ?_ _
                          go_wp2_with fail
                          go_meet
                          exact ⟨_, HE6.out, HK6.out⟩
                  · go_simp
                    refine hK.out _ _ (by (first | exact HS4.out _ HKD.out | exact HS4.out _ (Below.alloc HKD.out (K3.size HKD.out) _) | exact HS4.out _ HKW.out | exact HS4.out _ HK6.out)) (fun hHeld => ?_)
                    clear hK K
                    (try simp only [Act.put, List.setIfInBounds_toArray, List.set_cons_zero, List.set_cons_succ])
                    refine wpAnyH_ready (rs := [1]) (by kernel_rfl) (by simp) ?_
                    refine AllReadyH.cons rfl (fun K hK => ?_) AllReadyH.nil
                    · go_simp
                      refine hK.out _ _ (by (first | exact HS4.out _ HKD.out | exact HS4.out _ (Below.alloc HKD.out (K3.size HKD.out) _) | exact HS4.out _ HKW.out | exact HS4.out _ HK6.out)) (fun hHeld => ?_)
                      clear hK K
                      (try simp only [Act.put, List.setIfInBounds_toArray, List.set_cons_zero, List.set_cons_succ])
                      refine wpAnyH_ready (rs := [15]) (by kernel_rfl) (by simp) ?_
                      refine AllReadyH.cons rfl (fun K hK => ?_) AllReadyH.nil
                      · (refine step_push (by rfl) _ _ 22 (by rfl) 4 (.bool false) 1 Tryd.underlying22 info4 (by decide) (by decide) (w.heap.size + 3) (.slice aa na cna) _ (.bool tb) HDD.out.acc (K3.size HKD.out) (by rfl) HALE.out (by rfl) _ (by rfl) (by rfl) ?_; intro v6 w6 hp6; obtain ⟨a6, n6, c6, rfl, -⟩ := hp6.lst.shape'; have o6 := HDD.out.obAcc hp6; have q6 := (cells_get o6 2); have z6 := cells_free o6 2; have hl6 := (lt_of_block o6); have HE6 := Lib.hid (show Bld (w6.setCell ⟨w.heap.size + 3, 2, none⟩ (.slice a6 n6 c6)) (w.heap.size + 3) (w.heap.size + 3) k ((P0 : Int) + st2) (.slice a6 n6 c6) vn [(.slice (some ⟨g, 0, none⟩) c c, (rowPQ l m p q).map (Value.int .i64))] items ((AC.take (p * n2 + q)).map Value.bool ++ [.bool tb]) from HDD.out.pushAcc hp6); have HKW := Lib.hid (show K3 w #[.int .i64 k, .int .i64 st, .slice (some ⟨ba, oa, none⟩) n1 ca, .slice (some ⟨bb, ob, none⟩) n1 cb] #[.int .i64 k2, .int .i64 st2, .slice (some ⟨bc, oc, none⟩) n2 cc, .slice (some ⟨bd, od, none⟩) n2 cd] w6 from HKD.out.grown hp6.grow (K3.size HKD.out) (fun x hx => HDD.out.acc.ge hx)); have HK6 := Lib.hid (show K3 w #[.int .i64 k, .int .i64 st, .slice (some ⟨ba, oa, none⟩) n1 ca, .slice (some ⟨bb, ob, none⟩) n1 cb] #[.int .i64 k2, .int .i64 st2, .slice (some ⟨bc, oc, none⟩) n2 cc, .slice (some ⟨bd, od, none⟩) n2 cd] (w6.setCell ⟨w.heap.size + 3, 2, none⟩ (.slice a6 n6 c6)) from HKW.out.setCell (p := ⟨w.heap.size + 3, 2, none⟩) (Nat.le_refl _) _); simp at q6; clear hp6 o6)
                        refine hK.out _ _ (by (first | exact HS4.out _ HKD.out | exact HS4.out _ (Below.alloc HKD.out (K3.size HKD.out) _) | exact HS4.out _ HKW.out | exact HS4.out _ HK6.out)) (fun hHeld => ?_)
                        clear hK K
                        (try simp only [Act.put, List.setIfInBounds_toArray, List.set_cons_zero, List.set_cons_succ])
                        refine wpAnyH_take (i := 16) (v := ?v15) rfl (by kernel_rfl) (by kernel_rfl) (by kernel_rfl) (fun _ _ _ h => h) (Or.inl ⟨by rfl, ?y15⟩) (by assumption) ?r15
                        case y15 => (intro W hSw; (try dsimp only at hSw); go_simp; try with_reducible rfl)
                        (try simp only [Act.put, List.setIfInBounds_toArray, List.set_cons_zero, List.set_cons_succ])
                        refine wpAnyH_ready (rs := [17]) (by kernel_rfl) (by simp) ?_
                        refine AllReadyH.cons rfl (fun K hK => ?_) AllReadyH.nil
                        · go_simp
                          refine hK.out _ _ (by (first | exact HS4.out _ HKD.out | exact HS4.out _ (Below.alloc HKD.out (K3.size HKD.out) _) | exact HS4.out _ HKW.out | exact HS4.out _ HK6.out)) (fun hHeld => ?_)
                          clear hK K
                          (try simp only [Act.put, List.setIfInBounds_toArray, List.set_cons_zero, List.set_cons_succ])
                          refine wpAnyH_done (by kernel_rfl) ?_ _
                          go_wp2_with fail
                          go_meet
                          exact ⟨_, HE6.out, HK6.out⟩
              case rest =>
                obtain ⟨va6, h1, h2⟩ := hcut
                have HE := Lib.hid h1
                have HKE := Lib.hid h2
                have hc3 := h1.c3
                have hlZ3 := h1.lt
                have hz3 := cells_free h1.at_ 3
                have HIL := Lib.hid (show (items.map Prod.fst).length ≤ 100000000 by
                  have := congrArg List.length HI.out
                  rw [List.length_map, List.length_map, List.length_take] at this
                  have h9 := HNLn.out
                  rw [List.length_map, this]; omega)
                obtain ⟨an, nn, cn, rfl, -⟩ := h1.nxt.shape'
                have HNB := Lib.hid (HNT.out p q hlp hlq)
                clear h1 h2 x2 HTV HS4
                go_wp2_with (at_builtin; refine wpList_push rfl _ _ 23 rfl 45 (.slice none 0 0) 24 Tryd.underlying23 info54 (by decide) (by decide) (w.heap.size + 3) (.slice an nn cn) _ (.slice (some ⟨g, 0, none⟩) c c) HE.out.nxt (K3.size HKE.out) rfl HIL.out rfl _ rfl rfl ?_; intro v5 w5 hp5; obtain ⟨a5, n5, cp5, rfl, -⟩ := hp5.lst.shape'; have o5 := HE.out.obNext hp5; have q5 := (cells_get o5 3); have z5 := cells_free o5 3; have hl5 := (lt_of_block o5); have HE5 := Lib.hid (HE.out.pushNext [] [] hp5); have HK5 := Lib.hid ((HKE.out.grown hp5.grow (K3.size HKE.out) (fun x hx => HE.out.nxt.ge hx)).setCell (p := ⟨w.heap.size + 3, 3, none⟩) (Nat.le_refl _) (.slice a5 n5 cp5)); simp at q5; clear hp5 o5)
                go_roundw
                case rel =>
                  refine ⟨q + 1, va6, .slice a5 n5 cp5, items ++ [(.slice (some ⟨g, 0, none⟩) c c, (rowPQ l m p q).map (Value.int .i64))], hlq, by go_num, ?_, ?_, HK5.out⟩
                  · have h1 := HE5.out
                    rw [List.nil_append] at h1
                    rw [show p * n2 + (q + 1) = p * n2 + q + 1 from rfl, HNA.out, List.map_append]
                    exact h1
                  · rw [List.map_append, HI.out, show p * n2 + (q + 1) = p * n2 + q + 1 from rfl, HNB.out, List.map_append]
                    rfl
                case measure => simp [intOf]; omega
        · obtain rfl : q = n2 := by omega
          have HNEXT := Lib.hid (show (p + 1) * q = p * q + q from Nat.succ_mul p q)
          clear hk
          go_wp2_with fail
          go_roundw
          case rel => exact ⟨p + 1, _, _, _, hlp, by go_num, by rw [HNEXT.out]; exact HD.out, by rw [HNEXT.out]; exact HI.out, HK.out⟩
          case measure => simp [intOf]; omega
    · obtain rfl : p = n1 := by omega
      have HBU := Lib.hid (show Built wr (w.heap.size + 3) va vn AC NX from Built.of_bld HD.out (by rw [HALL.out]) (by rw [HI.out, HNLL.out]))
      have hat := HD.out.at_
      have hZl := HD.out.lt
      obtain ⟨aa, na, cna, rfl, -⟩ := HD.out.acc.shape'
      obtain ⟨an, nn, cnn, rfl, -⟩ := HD.out.nxt.shape'
      have d0 := cells_get hat 0
      have d1 := cells_get hat 1
      have d2 := cells_get hat 2
      have d3 := cells_get hat 3
      simp at d0 d1 d2 d3
      have hres := K3.res hk
      have r0 := cells_get hres 0
      have r1 := cells_get hres 1
      have r2 := cells_get hres 2
      have r3 := cells_get hres 3
      have f0 := cells_free hres 0
      have f1 := cells_free hres 1
      have f2 := cells_free hres 2
      have f3 := cells_free hres 3
      have hlS := lt_of_block hres
      have p0 := cells_set hres 0 (.int .i64 k)
      have p1 := cells_set p0 1 (.int .i64 ((P0 : Int) + st2))
      have p2 := cells_set p1 2 (.slice aa na cna)
      have p3 := cells_set p2 3 (.slice an nn cnn)
      simp at r0 r1 r2 r3 p3
      have g0 := cells_get p3 0
      have g1 := cells_get p3 1
      have g2 := cells_get p3 2
      have g3 := cells_get p3 3
      simp at g0 g1 g2 g3
      have HG := Lib.hid (And.intro g0 (And.intro g1 (And.intro g2 g3)))
      have HBS := Lib.hid (K3.base hk)
      clear p0 p1 p2 p3 g0 g1 g2 g3 hres hat hk
      go_wp2_with fail
      obtain ⟨g0, g1, g2, g3⟩ := HG.out
      refine bodyPost_ret (v := .agg #[.int .i64 k, .int .i64 ((P0 : Int) + st2), .slice aa na cna, .slice an nn cnn]) (by simp [results, Tryd.results71, go_sem, g0, g1, g2, g3]) rfl ⟨.slice aa na cna, .slice an nn cnn, by rw [HKP.out, HSP.out], ?_, ?_⟩
      · exact (((((HBU.out.setLow (a := ⟨w.heap.size + 2, 0, none⟩) (Nat.lt_succ_self _) _).setLow (a := ⟨w.heap.size + 2, 1, none⟩) (Nat.lt_succ_self _) _).setLow (a := ⟨w.heap.size + 2, 2, none⟩) (Nat.lt_succ_self _) _).setLow (a := ⟨w.heap.size + 2, 3, none⟩) (Nat.lt_succ_self _) _).mono (Nat.le_add_right _ 3))
      · exact ((((HBS.out.setCell (p := ⟨w.heap.size + 2, 0, none⟩) (Nat.le_add_right _ 2) _).setCell (p := ⟨w.heap.size + 2, 1, none⟩) (Nat.le_add_right _ 2) _).setCell (p := ⟨w.heap.size + 2, 2, none⟩) (Nat.le_add_right _ 2) _).setCell (p := ⟨w.heap.size + 2, 3, none⟩) (Nat.le_add_right _ 2) _)
end Go.Proofs.YtcpcbmappcndcaaDoor.PairsI
