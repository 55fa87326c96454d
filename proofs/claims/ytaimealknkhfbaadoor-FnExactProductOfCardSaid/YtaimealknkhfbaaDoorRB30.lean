
/- What the model's function that makes the automaton of pairs of states hands back.
   Conditions: stated at each theorem. -/
import Derived.Test.YtaimealknkhfbaaDoorRB28
import Derived.Test.YtaimealknkhfbaaDoorRB13
import Derived.Deep.RegionLaw
import Derived.Deep.RegionHeld3
import Derived.Deep.DrawnRows
import Derived.Test.YtaimealknkhfbaaDoorRB29
import Derived.Test.YtaimealknkhfbaaDoorRB12
import Derived.Test.YtaimealknkhfbaaDoorRB27
namespace Go.Proofs.YtaimealknkhfbaaDoor.Differ
set_option linter.unusedVariables false
set_option linter.unusedSimpArgs false
set_option maxRecDepth 100000
open Go.RowKit Mem Copy Rel Valid Heap Push Columns Bld TidyMath TidyAuto TidyRight SpecFiner SpecRight PairMath
attribute [local go_sem ↓] Go.wp_at_zero Go.wp_at_succ

theorem rel_row (l : L) (p : Nat) : (relOf l).next.getD p [] = ofN (l.nx.getD p []) := by
  unfold relOf
  simp only [List.getD, List.getElem?_map]
  cases l.nx[p]? <;> rfl
theorem ofN_len (x : List Nat) : (ofN x).length = x.length := by simp [ofN]
theorem ofN_get (x : List Nat) (c : Nat) : (ofN x).getD c 0 = ((x.getD c 0 : Nat) : Int) := by
  unfold ofN
  simp only [List.getD, List.getElem?_map]
  cases x[c]? <;> rfl
/-- A relation behind a pointer, cell by cell, whatever is made later. -/
theorem laidP {w : World} {B bp : Nat} {l : L} (hl : l.Ok) (h : RelPtr w B bp (relOf l)) (hB : B ≤ w.heap.size) (hbp : bp < w.heap.size) :
    ∃ (ba oa ca bb ob cb : Nat) (V : Nat → Value), ba < w.heap.size ∧ bb < w.heap.size ∧
      (∀ W, Below w.heap.size w W → W.cell? ⟨bp, 0, none⟩ = some (.int .i64 l.k) ∧ W.cell? ⟨bp, 1, none⟩ = some (.int .i64 l.start) ∧ W.cell? ⟨bp, 2, none⟩ = some (.slice (some ⟨ba, oa, none⟩) l.acc.length ca) ∧ W.cell? ⟨bp, 3, none⟩ = some (.slice (some ⟨bb, ob, none⟩) l.acc.length cb)) ∧
      (∀ W, Below w.heap.size w W → ∀ p, p < l.acc.length → W.cell? ⟨ba, oa + p, none⟩ = some (.bool (l.acc.getD p false)) ∧ W.cell? ⟨bb, ob + p, none⟩ = some (V p)) ∧
      ∀ p, p < l.acc.length → ∃ br or' cr, V p = .slice (some ⟨br, or', none⟩) (wide l.k) cr ∧ br < w.heap.size ∧ ∀ W, Below w.heap.size w W → ∀ c, c < wide l.k → W.cell? ⟨br, or' + c, none⟩ = some (.int .i64 ((l.nx.getD p []).getD c 0 : Nat)) := by
  have hl0 : 0 < l.acc.length := Nat.lt_of_le_of_lt (Nat.zero_le _) hl.st
  obtain ⟨va, vn, c0, c1, c2, c3, ha, hx⟩ := h
  obtain ⟨aa, ba, oa, ca, rfl, hma, haa, hca⟩ := ha
  obtain ⟨rfl, hba⟩ := haa hl0
  obtain ⟨V, hsl, hrows⟩ := hx
  obtain ⟨ab, bb, ob, cb, rfl, hmb, hab, hcb⟩ := hsl
  have hnl : (relOf l).next.length = l.acc.length := by show (l.nx.map ofN).length = _; rw [List.length_map]; exact hl.len
  rw [hnl] at hab hcb hrows c3
  obtain ⟨rfl, hbb⟩ := hab hl0
  refine ⟨ba, oa, ca, bb, ob, cb, V, by omega, by omega, fun W hW => ⟨(hW.cell (p := ⟨bp, 0, none⟩) hbp).trans c0, (hW.cell (p := ⟨bp, 1, none⟩) hbp).trans c1, (hW.cell (p := ⟨bp, 2, none⟩) hbp).trans c2, (hW.cell (p := ⟨bp, 3, none⟩) hbp).trans c3⟩,
    fun W hW p hp => ⟨(hW.cell (p := ⟨ba, oa + p, none⟩) (show ba < w.heap.size by omega)).trans (hca p hp), (hW.cell (p := ⟨bb, ob + p, none⟩) (show bb < w.heap.size by omega)).trans (hcb p hp)⟩, fun p hp => ?_⟩
  have hr := hrows p hp
  rw [rel_row] at hr
  obtain ⟨ar, br, or', cr, hv, -, hra, hrc⟩ := hr
  have hlen : (ofN (l.nx.getD p [])).length = wide l.k := by rw [ofN_len]; exact hl.row p hp
  have hw := wide_cases hl.k0 hl.k3
  rw [hlen] at hv hra hrc
  obtain ⟨rfl, hbr⟩ := hra (by omega)
  refine ⟨br, or', cr, hv, by omega, fun W hW c hc => ?_⟩
  rw [hW.cell (p := ⟨br, or' + c, none⟩) (show br < w.heap.size by omega), hrc c hc]
  show some (Value.int .i64 ((ofN (l.nx.getD p [])).getD c 0)) = _
  rw [ofN_get]

/-- Just one of two. -/
def dif (a b : Bool) : Bool := !(a == b)
set_option maxHeartbeats 16000000 in
theorem differ (l m : L) (hl : l.Ok) (hm : m.Ok) (hk : l.k = m.k) (bp bq : Nat) (w : World) (B : Nat) (h : RelPtr w B bp (relOf l)) (h' : RelPtr w B bq (relOf m)) (hB : B ≤ w.heap.size) (hbp : bp < w.heap.size) (hbq : bq < w.heap.size) (hnm : l.acc.length * m.acc.length ≤ 1000) :
    Calls Tryd.prog 51 #[.pointer (some ⟨bp, 0, none⟩), .pointer (some ⟨bq, 0, none⟩)] w fun e w' => ∃ va vn, e = .returned (.agg #[.int .i64 (pairL dif l m).k, .int .i64 (pairL dif l m).start, va, vn]) ∧ Built w' w.heap.size va vn (pairL dif l m).acc (relOf (pairL dif l m)).next ∧ Below w.heap.size w w' := by
  obtain ⟨t, ht⟩ : ∃ t, t = dif := ⟨_, rfl⟩
  rw [← ht]
  have HDIF := Lib.hid (show ∀ a b, t a b = !(a == b) from fun a b => by rw [ht]; rfl)
  clear ht
  have hl0 : 0 < l.acc.length := Nat.lt_of_le_of_lt (Nat.zero_le _) hl.st
  have hm0 : 0 < m.acc.length := Nat.lt_of_le_of_lt (Nat.zero_le _) hm.st
  obtain ⟨hs1, hs2⟩ := sides hl0 hm0 hnm
  obtain ⟨ba, oa, ca, bb, ob, cb, V, hba, hbb, hptr, hcell, hrowV⟩ := laidP hl h hB hbp
  obtain ⟨bc, oc, cc, bd, od, cd, U, hbc, hbd, hptr', hcell', hrowU⟩ := laidP hm h' hB hbq
  rw [← hk] at hrowU
  have hw26 : 0 < wide l.k ∧ wide l.k ≤ 26 := by have := wide_cases hl.k0 hl.k3; omega
  have HPB := Lib.hid hptr
  have HQB := Lib.hid hptr'
  have HC1 := Lib.hid hcell
  have HC2 := Lib.hid hcell'
  have HV := Lib.hid hrowV
  have HU := Lib.hid hrowU
  have HLL := Lib.hid (fun p (hp : p < l.acc.length) c (hc : c < wide l.k) => hl.lt p hp c hc)
  have HLM := Lib.hid (fun q (hq : q < m.acc.length) c (hc : c < wide l.k) => hm.lt q hq c (by rw [← hk]; exact hc))
  have HAT := Lib.hid (fun p q hp hq => acc_next t l m (p := p) (q := q) hp hq)
  have HNT := Lib.hid (fun p q hp hq => next_next t l m (p := p) (q := q) hp hq)
  have HALL := Lib.hid (show (pairL t l m).acc.take (l.acc.length * m.acc.length) = (pairL t l m).acc from List.take_of_length_le (by rw [pairL_len]; exact Nat.le_refl _))
  have HNLL := Lib.hid (show (relOf (pairL t l m)).next.take (l.acc.length * m.acc.length) = (relOf (pairL t l m)).next from List.take_of_length_le (by rw [rel_next_len]; exact Nat.le_refl _))
  have HALn := Lib.hid (show (pairL t l m).acc.length ≤ 1000 by rw [pairL_len]; exact hnm)
  have HNLn := Lib.hid (show (relOf (pairL t l m)).next.length ≤ 1000 by rw [rel_next_len]; exact hnm)
  have hP := mul_le_pair hl.st hm.st hnm
  have HSTP := Lib.hid (show (pairL t l m).start = l.start * m.acc.length + m.start from rfl)
  have HKP := Lib.hid (show (pairL t l m).k = l.k from rfl)
  have HML := Lib.hid (fun (x y : Nat) (hx : x < l.acc.length) (hy : y < m.acc.length) => mul_le_pair hx hy hnm)
  have HRP := Lib.hid (fun p q => show rowPQ l m p q = (List.range (wide l.k)).map fun c => (((l.nx.getD p []).getD c 0 * m.acc.length + (m.nx.getD q []).getD c 0 : Nat) : Int) from rfl)
  obtain ⟨AC, hAC⟩ : ∃ AC, AC = (pairL t l m).acc := ⟨_, rfl⟩
  obtain ⟨NX, hNX⟩ : ∃ NX, NX = (relOf (pairL t l m)).next := ⟨_, rfl⟩
  obtain ⟨KP, hKP⟩ : ∃ KP, KP = (pairL t l m).k := ⟨_, rfl⟩
  obtain ⟨SP, hSP⟩ : ∃ SP, SP = (pairL t l m).start := ⟨_, rfl⟩
  obtain ⟨n1, hn1⟩ : ∃ n, n = l.acc.length := ⟨_, rfl⟩
  obtain ⟨n2, hn2⟩ : ∃ n, n = m.acc.length := ⟨_, rfl⟩
  obtain ⟨wd, hwd⟩ : ∃ n, n = wide l.k := ⟨_, rfl⟩
  obtain ⟨k, hkk⟩ : ∃ n, n = l.k := ⟨_, rfl⟩
  obtain ⟨k2, hkk2⟩ : ∃ n, n = m.k := ⟨_, rfl⟩
  obtain ⟨st, hst⟩ : ∃ n, n = l.start := ⟨_, rfl⟩
  obtain ⟨st2, hst2⟩ : ∃ n, n = m.start := ⟨_, rfl⟩
  obtain ⟨fa, hfa⟩ : ∃ f : Nat → Bool, f = fun p => l.acc.getD p false := ⟨_, rfl⟩
  obtain ⟨fb, hfb⟩ : ∃ f : Nat → Bool, f = fun p => m.acc.getD p false := ⟨_, rfl⟩
  obtain ⟨fx, hfx⟩ : ∃ f : Nat → Nat → Nat, f = fun p c => (l.nx.getD p []).getD c 0 := ⟨_, rfl⟩
  obtain ⟨fy, hfy⟩ : ∃ f : Nat → Nat → Nat, f = fun p c => (m.nx.getD p []).getD c 0 := ⟨_, rfl⟩
  have HPB := Lib.hid (show ∀ W, Below w.heap.size w W → W.cell? ⟨bp, 0, none⟩ = some (.int .i64 k) ∧ W.cell? ⟨bp, 1, none⟩ = some (.int .i64 st) ∧ W.cell? ⟨bp, 2, none⟩ = some (.slice (some ⟨ba, oa, none⟩) n1 ca) ∧ W.cell? ⟨bp, 3, none⟩ = some (.slice (some ⟨bb, ob, none⟩) n1 cb) from by rw [hkk, hst, hn1]; exact HPB.out)
  have HQB := Lib.hid (show ∀ W, Below w.heap.size w W → W.cell? ⟨bq, 0, none⟩ = some (.int .i64 k2) ∧ W.cell? ⟨bq, 1, none⟩ = some (.int .i64 st2) ∧ W.cell? ⟨bq, 2, none⟩ = some (.slice (some ⟨bc, oc, none⟩) n2 cc) ∧ W.cell? ⟨bq, 3, none⟩ = some (.slice (some ⟨bd, od, none⟩) n2 cd) from by rw [hkk2, hst2, hn2]; exact HQB.out)
  have HC1 := Lib.hid (show ∀ W, Below w.heap.size w W → ∀ p, p < n1 → W.cell? ⟨ba, oa + p, none⟩ = some (.bool (fa p)) ∧ W.cell? ⟨bb, ob + p, none⟩ = some (V p) from by rw [hn1, hfa]; exact HC1.out)
  have HC2 := Lib.hid (show ∀ W, Below w.heap.size w W → ∀ p, p < n2 → W.cell? ⟨bc, oc + p, none⟩ = some (.bool (fb p)) ∧ W.cell? ⟨bd, od + p, none⟩ = some (U p) from by rw [hn2, hfb]; exact HC2.out)
  have HV := Lib.hid (show ∀ p, p < n1 → ∃ br or' cr, V p = .slice (some ⟨br, or', none⟩) wd cr ∧ br < w.heap.size ∧ ∀ W, Below w.heap.size w W → ∀ c, c < wd → W.cell? ⟨br, or' + c, none⟩ = some (.int .i64 (fx p c : Nat)) from by rw [hn1, hwd, hfx]; exact HV.out)
  have HU := Lib.hid (show ∀ p, p < n2 → ∃ br or' cr, U p = .slice (some ⟨br, or', none⟩) wd cr ∧ br < w.heap.size ∧ ∀ W, Below w.heap.size w W → ∀ c, c < wd → W.cell? ⟨br, or' + c, none⟩ = some (.int .i64 (fy p c : Nat)) from by rw [hn2, hwd, hfy]; exact HU.out)
  have HLL := Lib.hid (show ∀ p, p < n1 → ∀ c, c < wd → fx p c < n1 from by rw [hn1, hwd, hfx]; exact HLL.out)
  have HLM := Lib.hid (show ∀ p, p < n2 → ∀ c, c < wd → fy p c < n2 from by rw [hn2, hwd, hfy]; exact HLM.out)
  have HAT := Lib.hid (show ∀ p q, p < n1 → q < n2 → AC.take (p * n2 + q + 1) = AC.take (p * n2 + q) ++ [t (fa p) (fb q)] from by rw [hn1, hn2, hAC, hfa, hfb]; exact HAT.out)
  have HNT := Lib.hid (show ∀ p q, p < n1 → q < n2 → NX.take (p * n2 + q + 1) = NX.take (p * n2 + q) ++ [rowPQ l m p q] from by rw [hn1, hn2, hNX]; exact HNT.out)
  have HRP := Lib.hid (show ∀ p q, (rowPQ l m p q).map (Value.int .i64) = tv wd fun c => ((fx p c * n2 + fy q c : Nat) : Int) from fun p q => by rw [hn2, hwd, hfx, hfy, HRP.out p q]; unfold tv; rw [List.map_map]; rfl)
  have HML := Lib.hid (show ∀ x y : Nat, x < n1 → y < n2 → x * n2 ≤ 1000 ∧ x * n2 + y ≤ 1000 from by rw [hn1, hn2]; exact HML.out)
  have HALL := Lib.hid (show AC.take (n1 * n2) = AC from by rw [hn1, hn2, hAC]; exact HALL.out)
  have HNLL := Lib.hid (show NX.take (n1 * n2) = NX from by rw [hn1, hn2, hNX]; exact HNLL.out)
  have HALn := Lib.hid (show AC.length ≤ 1000 from by rw [hAC]; exact HALn.out)
  have HNLn := Lib.hid (show NX.length ≤ 1000 from by rw [hNX]; exact HNLn.out)
  obtain ⟨P0, hP0⟩ : ∃ P0, P0 = st * n2 := ⟨_, rfl⟩
  have hmulS : (st : Int) * (n2 : Int) = (P0 : Int) := by rw [hP0]; exact (Int.natCast_mul st n2).symm
  have hP0a : P0 ≤ 1000 := by rw [hP0, hst, hn2]; exact hP.1
  have hP0b : P0 + st2 ≤ 1000 := by rw [hP0, hst, hn2, hst2]; exact hP.2
  have HSP := Lib.hid (show (SP : Int) = (P0 : Int) + st2 from by rw [hSP, HSTP.out, hP0, hst, hn2, hst2]; exact Int.natCast_add _ _)
  have HKP := Lib.hid (show (KP : Int) = (k : Int) from by rw [hKP, HKP.out, hkk])
  rw [← hn1] at hl0 hs1
  rw [← hn2] at hm0 hs2
  rw [← hwd] at hw26
  rw [← hAC, ← hNX, ← hKP, ← hSP]
  have hst01 : st ≤ 1000 := by have : st < n1 := by rw [hst, hn1]; exact hl.st
                               omega
  clear hAC hNX hKP hSP hn1 hn2 hwd hkk hkk2 hst hst2 hfa hfb hfx hfy hP0 hP hcell hcell' hrowV hrowU hptr hptr' hk hl hm h h' hnm hB
  have HD0 := Lib.hid (show Bld ((w.alloc (.cells #[Value.int .i64 0, .int .i64 0, .slice none 0 0, .slice none 0 0] 27)).alloc (.cells #[Value.int .i64 k, .int .i64 ((P0 : Int) + st2), .slice none 0 0, .slice none 0 0] 27)) (w.heap.size + 1) (w.heap.size + 1) k ((P0 : Int) + st2) (.slice none 0 0) (.slice none 0 0) [] [] ((AC.take (0 * n2)).map Value.bool) from by
    rw [Nat.zero_mul]
    refine ⟨Own.nil _ _ _, Lst.nil _ _ _, Lst.nil _ _ _, ?_, Nat.le_refl _⟩
    have := heap_alloc_new (w.alloc (.cells #[Value.int .i64 0, .int .i64 0, .slice none 0 0, .slice none 0 0] 27)) (.cells #[Value.int .i64 k, .int .i64 ((P0 : Int) + st2), .slice none 0 0, .slice none 0 0] 27)
    rwa [size_alloc'] at this)
  have HK0 := Lib.hid (show Kp w ((w.alloc (.cells #[Value.int .i64 0, .int .i64 0, .slice none 0 0, .slice none 0 0] 27)).alloc (.cells #[Value.int .i64 k, .int .i64 ((P0 : Int) + st2), .slice none 0 0, .slice none 0 0] 27)) from (Below.refl _ _).alloc (by rw [size_alloc']; exact Nat.le_refl _) _)
  have HKZ := Lib.hid (show Kp w (w.alloc (.cells #[Value.int .i64 0, .int .i64 0, .slice none 0 0, .slice none 0 0] 27)) from Below.refl _ _)
  obtain ⟨b0, b1, b2, b3⟩ := HPB.out _ (Kp.base HKZ.out)
  obtain ⟨e0, e1, e2, e3⟩ := HQB.out _ (Kp.base HKZ.out)
  have lbp : bp < (w.alloc (.cells #[Value.int .i64 0, .int .i64 0, .slice none 0 0, .slice none 0 0] 27)).heap.size := by rw [size_alloc']; omega
  have lbq : bq < (w.alloc (.cells #[Value.int .i64 0, .int .i64 0, .slice none 0 0, .slice none 0 0] 27)).heap.size := by rw [size_alloc']; omega
  have hwr1 : IntKind.i64.wrap (P0 : Int) = (P0 : Int) := by rw [IntKind.wrap_i64]; omega
  have hwr2 : IntKind.i64.wrap ((P0 : Int) + (st2 : Int)) = (P0 : Int) + st2 := by rw [IntKind.wrap_i64]; omega
  go_enter Tryd.func51, Tryd.ntmps51
  go_upto_region 2 with fail
  go_cut [6] (fun v6 wx => v6 = .pointer (some ⟨w.heap.size + 1, 0, none⟩) ∧ Bld wx (w.heap.size + 1) (w.heap.size + 1) k ((P0 : Int) + st2) (.slice none 0 0) (.slice none 0 0) [] [] ((AC.take (0 * n2)).map Value.bool) ∧ Kp w wx)
  case first =>
    go_region_held3 (fun w' => w'.cell? ⟨bp, 0, none⟩ = some (.int .i64 k) ∧ w'.cell? ⟨bp, 1, none⟩ = some (.int .i64 st) ∧ w'.cell? ⟨bq, 1, none⟩ = some (.int .i64 st2))
      (first | go_keep | exact ⟨(HPB.out _ (Kp.base HK0.out)).1, (HPB.out _ (Kp.base HK0.out)).2.1, (HQB.out _ (Kp.base HK0.out)).2.1⟩) (fail)
    all_goals
      go_wp2_with fail
      go_meet
      exact ⟨rfl, HD0.out.drew, Below.drew HK0.out⟩
  case rest =>
    obtain ⟨rfl, hd, hk⟩ := hcut
    have HD0 := Lib.hid hd
    have HK0 := Lib.hid hk
    clear hd hk hwr1 hwr2 b0 b1 b2 b3 e0 e1 e2 e3 lbp lbq HKZ hmulS hP0a hP0b
    go_wp2_with fail
    go_loopw [7, 8, 9, 10] (fun s7 _ _ _ wr => ∃ (p : Nat) (va vn : Value) (items : List (Value × List Value)), p ≤ n1 ∧ s7 = .int .i64 p ∧ Bld wr (w.heap.size + 1) (w.heap.size + 1) k ((P0 : Int) + st2) va vn [] items ((AC.take (p * n2)).map Value.bool) ∧ items.map Prod.snd = (NX.take (p * n2)).map (fun x => x.map (Value.int .i64)) ∧ Kp w wr) (fun s7 _ _ _ _ => n1 - (intOf s7).toNat)
    case atStart => exact ⟨0, _, _, [], Nat.zero_le _, rfl, HD0.out, by rw [Nat.zero_mul]; rfl, HK0.out⟩
    case round =>
      obtain ⟨p, va, vn, items, hp, rfl, hd, hi, hk⟩ := hrel
      have HD := Lib.hid hd
      have HI := Lib.hid hi
      have HK := Lib.hid hk
      clear hd hi HD0 HK0
      obtain ⟨b0, b1, b2, b3⟩ := HPB.out _ (Kp.base hk)
      obtain ⟨e0, e1, e2, e3⟩ := HQB.out _ (Kp.base hk)
      have lbp : bp < wr.heap.size := by have := Kp.size hk; omega
      have lbq : bq < wr.heap.size := by have := Kp.size hk; omega
      by_cases hlp : p < n1
      · obtain ⟨br, or', cr, hv, hbr, hrc⟩ := HV.out p hlp
        have HX := Lib.hid hrc
        have HVP := Lib.hid hv
        have hp0 : (0 : Int) ≤ (p : Int) := Int.natCast_nonneg _
        have hp1 : (p : Int) < (n1 : Int) := by omega
        have hHD1 := Lib.hid (show Bld wr (w.heap.size + 1) (w.heap.size + 1) k ((P0 : Int) + st2) va vn [] items ((AC.take (p * n2 + 0)).map Value.bool) from HD.out)
        clear hv hrc hk HD
        go_wp2_with fail
        go_loopw [8, 9, 10] (fun s8 _ _ wr2 => ∃ (q : Nat) (va vn : Value) (items : List (Value × List Value)), q ≤ n2 ∧ s8 = .int .i64 q ∧ Bld wr2 (w.heap.size + 1) (w.heap.size + 1) k ((P0 : Int) + st2) va vn [] items ((AC.take (p * n2 + q)).map Value.bool) ∧ items.map Prod.snd = (NX.take (p * n2 + q)).map (fun x => x.map (Value.int .i64)) ∧ Kp w wr2) (fun s8 _ _ _ => n2 - (intOf s8).toNat)
        case atStart => exact ⟨0, va, vn, items, Nat.zero_le _, rfl, hHD1.out, HI.out, HK.out⟩
        case round =>
          obtain ⟨q, va, vn, items, hq, rfl, hd, hi, hk⟩ := hrel
          have HD := Lib.hid hd
          have HI := Lib.hid hi
          have HK := Lib.hid hk
          clear hd hi hHD1 b0 b1 b2 b3 e0 e1 e2 e3 lbp lbq
          obtain ⟨b0, b1, b2, b3⟩ := HPB.out _ (Kp.base hk)
          obtain ⟨e0, e1, e2, e3⟩ := HQB.out _ (Kp.base hk)
          have lbp : bp < wr.heap.size := by have := Kp.size hk; omega
          have lbq : bq < wr.heap.size := by have := Kp.size hk; omega
          by_cases hlq : q < n2
          · obtain ⟨bs, os, cs, hv, hbs, hsc⟩ := HU.out q hlq
            have HY := Lib.hid hsc
            have HUQ := Lib.hid hv
            have hq0 : (0 : Int) ≤ (q : Int) := Int.natCast_nonneg _
            have hq1 : (q : Int) < (n2 : Int) := by omega
            obtain ⟨g, hg⟩ : ∃ g, g = wr.heap.size := ⟨_, rfl⟩
            have HGS := Lib.hid (show w.heap.size + 1 ≤ g from by rw [hg]; exact Kp.size hk)
            obtain ⟨PQ, hPQ⟩ : ∃ PQ : Nat → Int, PQ = fun c => ((fx p c * n2 + fy q c : Nat) : Int) := ⟨_, rfl⟩
            have HPQ := Lib.hid hPQ
            have HA1 := Lib.hid (show Bld (wr.alloc (.cells #[] 2)) (w.heap.size + 1) (w.heap.size + 1) k ((P0 : Int) + st2) va vn [(.slice (some ⟨g, 0, none⟩) 0 0, tv 0 PQ)] items ((AC.take (p * n2 + q)).map Value.bool) from by
              have h1 := Lst.empty wr (w.heap.size + 1) 2 (Kp.size hk)
              rw [← hg] at h1
              exact HD.out.addInt ((Below.refl _ _).alloc (Nat.le_refl _) _) h1 (fun x hx => by cases hx; rw [hg]; exact Nat.le_refl _))
            have HB1 := Lib.hid (show Kp w (wr.alloc (.cells #[] 2)) from Below.alloc hk (Kp.size hk) _)
            clear hv hsc hPQ hk
            go_wp2_with fail
            rw [← hg]
            clear hg
            go_loopw [9, 10] (fun s9 s10 wr3 => ∃ (c : Nat) (a9 : Option Addr) (c9 : Nat), c ≤ wd ∧ s10 = .int .i64 c ∧ s9 = .slice a9 c c9 ∧ Bld wr3 (w.heap.size + 1) (w.heap.size + 1) k ((P0 : Int) + st2) va vn [(.slice a9 c c9, tv c PQ)] items ((AC.take (p * n2 + q)).map Value.bool) ∧ Kp w wr3) (fun _ s10 _ => wd - (intOf s10).toNat)
            case atStart => exact ⟨0, _, _, Nat.zero_le _, rfl, rfl, HA1.out, HB1.out⟩
            case round =>
              obtain ⟨c, a9, c9, hc, rfl, rfl, hd, hk⟩ := hrel
              have HD2 := Lib.hid hd
              have HK2 := Lib.hid hk
              clear hd HA1 HB1 b0 b1 b2 b3 e0 e1 e2 e3 lbp lbq
              obtain ⟨b0, b1, b2, b3⟩ := HPB.out _ (Kp.base hk)
              obtain ⟨e0, e1, e2, e3⟩ := HQB.out _ (Kp.base hk)
              have lbp : bp < wr.heap.size := by have := Kp.size hk; omega
              have lbq : bq < wr.heap.size := by have := Kp.size hk; omega
              have cV := (HC1.out _ (Kp.base hk) p hlp).2
              rw [HVP.out] at cV
              have cU := (HC2.out _ (Kp.base hk) q hlq).2
              rw [HUQ.out] at cU
              have lbb : bb < wr.heap.size := by have := Kp.size hk; omega
              have lbd : bd < wr.heap.size := by have := Kp.size hk; omega
              by_cases hlc : c < wd
              · have cx := HX.out _ (Kp.base hk) c hlc
                have cy := HY.out _ (Kp.base hk) c hlc
                obtain ⟨x, hx⟩ : ∃ x, x = fx p c := ⟨_, rfl⟩
                obtain ⟨y, hy⟩ : ∃ y, y = fy q c := ⟨_, rfl⟩
                have hxn : x < n1 := by rw [hx]; exact HLL.out p hlp c hlc
                have hyn : y < n2 := by rw [hy]; exact HLM.out q hlq c hlc
                obtain ⟨hP1, hP2⟩ := HML.out x y hxn hyn
                obtain ⟨P, hP⟩ : ∃ P, P = x * n2 := ⟨_, rfl⟩
                have hmul : (x : Int) * (n2 : Int) = (P : Int) := by rw [hP]; exact (Int.natCast_mul x n2).symm
                rw [← hP] at hP1 hP2
                have hwr1 : IntKind.i64.wrap (P : Int) = (P : Int) := by rw [IntKind.wrap_i64]; omega
                have hwr2 : IntKind.i64.wrap ((P : Int) + (y : Int)) = (P : Int) + (y : Int) := by rw [IntKind.wrap_i64]; omega
                have HPV := Lib.hid (show PQ c = (P : Int) + (y : Int) from by rw [HPQ.out, hP, hx, hy]; exact Int.natCast_add _ _)
                rw [← hx] at cx
                rw [← hy] at cy
                have hc0 : (0 : Int) ≤ (c : Int) := Int.natCast_nonneg _
                have hc1 : (c : Int) < (wd : Int) := by omega
                have lbr : br < wr.heap.size := by have := Kp.size hk; omega
                have lbs : bs < wr.heap.size := by have := Kp.size hk; omega
                have HDD := Lib.hid HD2.out.drew
                have HKD := Lib.hid (show Kp w wr.drew from Below.drew HK2.out)
                have HS6 := Lib.hid (show ∀ W, Below w.heap.size w W → W.cell? ⟨bp, 3, none⟩ = some (.slice (some ⟨bb, ob, none⟩) n1 cb) ∧ W.cell? ⟨bb, ob + p, none⟩ = some (.slice (some ⟨br, or', none⟩) wd cr) ∧ W.cell? ⟨br, or' + c, none⟩ = some (.int .i64 (x : Nat)) ∧ W.cell? ⟨bq, 3, none⟩ = some (.slice (some ⟨bd, od, none⟩) n2 cd) ∧ W.cell? ⟨bd, od + q, none⟩ = some (.slice (some ⟨bs, os, none⟩) wd cs) ∧ W.cell? ⟨bs, os + c, none⟩ = some (.int .i64 (y : Nat)) from fun W hW =>
                  ⟨(HPB.out W hW).2.2.2, by rw [← HVP.out]; exact (HC1.out W hW p hlp).2, by rw [hx]; exact HX.out W hW c hlc, (HQB.out W hW).2.2.2, by rw [← HUQ.out]; exact (HC2.out W hW q hlq).2, by rw [hy]; exact HY.out W hW c hlc⟩)
                clear hx hy hP hk
                go_upto_region 13 with fail
                go_region_held3 (fun w' => w'.cell? ⟨bp, 3, none⟩ = some (.slice (some ⟨bb, ob, none⟩) n1 cb) ∧ w'.cell? ⟨bb, ob + p, none⟩ = some (.slice (some ⟨br, or', none⟩) wd cr) ∧ w'.cell? ⟨br, or' + c, none⟩ = some (.int .i64 (x : Nat)) ∧ w'.cell? ⟨bq, 3, none⟩ = some (.slice (some ⟨bd, od, none⟩) n2 cd) ∧ w'.cell? ⟨bd, od + q, none⟩ = some (.slice (some ⟨bs, os, none⟩) wd cs) ∧ w'.cell? ⟨bs, os + c, none⟩ = some (.int .i64 (y : Nat)))
                  (first | go_keep | exact HS6.out _ (Kp.base HK6.out))
                  ((refine step_push (by rfl) _ _ 52 (by rfl) 2 (.int .i64 0) 8 Tryd.underlying52 info2 (by decide) (by decide) (w.heap.size + 1) (.slice a9 c c9) _ (.int .i64 ((P : Int) + (y : Int))) (Own.get [] _ HDD.out.own) (Kp.size HKD.out) (by rfl) (by rw [tv_length]; omega) (by rfl) _ (by rfl) (by rfl) ?_; intro v6 w6 hp6; obtain ⟨a6, n6, c6, rfl, HN6⟩ := hp6.lst.shape'; have HE6 := Lib.hid (HDD.out.pushInt [] [] hp6); have HK6 := Lib.hid (HKD.out.grown hp6.grow (Kp.size HKD.out) (fun x hx => (Own.get [] _ HDD.out.own).ge hx)); clear hp6))
                all_goals
                  go_wp2_with fail
                  go_roundw
                  case rel =>
                    have h6 : n6 = c + 1 := by rw [HN6.out, List.length_append, tv_length]; rfl
                    subst h6
                    have h1 := HE6.out
                    rw [← HPV.out, tv_snoc c PQ] at h1
                    exact ⟨c + 1, _, _, hlc, by go_num, rfl, h1, HK6.out⟩
                  case measure => simp [intOf]; omega
              · obtain rfl : c = wd := by omega
                have HD3 := Lib.hid (show Bld wr (w.heap.size + 1) (w.heap.size + 1) k ((P0 : Int) + st2) va vn [(.slice a9 c c9, (rowPQ l m p q).map (Value.int .i64))] items ((AC.take (p * n2 + q)).map Value.bool) from by
                  rw [HRP.out p q]
                  have h1 := HD2.out
                  rw [HPQ.out] at h1
                  exact h1)
                have ea := (HC1.out _ (Kp.base hk) p hlp).1
                have eb := (HC2.out _ (Kp.base hk) q hlq).1
                have x2 := HD2.out.c2
                have hlZ := HD2.out.lt
                have lba : ba < wr.heap.size := by have := Kp.size hk; omega
                have lbc : bc < wr.heap.size := by have := Kp.size hk; omega
                obtain ⟨a, ha⟩ : ∃ a, a = fa p := ⟨_, rfl⟩
                obtain ⟨b, hb⟩ : ∃ b, b = fb q := ⟨_, rfl⟩
                rw [← ha] at ea
                rw [← hb] at eb
                have HNA := Lib.hid (HAT.out p q hlp hlq)
                rw [← ha, ← hb, HDIF.out] at HNA
                have HALE := Lib.hid (show ((AC.take (p * n2 + q)).map Value.bool).length ≤ 100000000 by rw [List.length_map, List.length_take]; have := HALn.out; omega)
                obtain ⟨aa, na, cna, rfl, -⟩ := HD2.out.acc.shape'
                have HDD := Lib.hid HD3.out.drew
                have HKD := Lib.hid (show Kp w wr.drew from Below.drew HK2.out)
                have HS4 := Lib.hid (show ∀ W, Below w.heap.size w W → W.cell? ⟨bp, 2, none⟩ = some (.slice (some ⟨ba, oa, none⟩) n1 ca) ∧ W.cell? ⟨ba, oa + p, none⟩ = some (.bool a) ∧ W.cell? ⟨bq, 2, none⟩ = some (.slice (some ⟨bc, oc, none⟩) n2 cc) ∧ W.cell? ⟨bc, oc + q, none⟩ = some (.bool b) from fun W hW => ⟨(HPB.out W hW).2.2.1, by rw [ha]; exact (HC1.out W hW p hlp).1, (HQB.out W hW).2.2.1, by rw [hb]; exact (HC2.out W hW q hlq).1⟩)
                clear ha hb hk HD2
                go_upto_region 14 with fail
                go_cut [] (fun wx => ∃ va', Bld wx (w.heap.size + 1) (w.heap.size + 1) k ((P0 : Int) + st2) va' vn [(.slice a9 c c9, (rowPQ l m p q).map (Value.int .i64))] items ((AC.take (p * n2 + q)).map Value.bool ++ [.bool (!(a == b))]) ∧ Kp w wx)
                case first =>
-- {fast
                  refine wp_region_held_drew (S := (fun w' => w'.cell? ⟨bp, 2, none⟩ = some (.slice (some ⟨ba, oa, none⟩) n1 ca) ∧ w'.cell? ⟨ba, oa + p, none⟩ = some (.bool a) ∧ w'.cell? ⟨bq, 2, none⟩ = some (.slice (some ⟨bc, oc, none⟩) n2 cc) ∧ w'.cell? ⟨bc, oc + q, none⟩ = some (.bool b))) (by kernel_rfl) ?hS (fun hHeld => ?hR)
                  case hS => (first | exact HS4.out _ (Kp.base HKD.out) | exact HS4.out _ (Kp.base (Below.alloc HKD.out (Kp.size HKD.out) _)) | exact HS4.out _ (Kp.base HKW.out) | exact HS4.out _ (Kp.base HK6.out))
                  refine wpAnyH_take (i := 0) (v := ?v1) rfl (by kernel_rfl) (by kernel_rfl) (by kernel_rfl) (fun _ _ _ h => h) (Or.inl ⟨by rfl, ?y1⟩) (by assumption) ?r1
                  case y1 => (intro W hSw; (try dsimp only at hSw); go_simp; try with_reducible rfl)
                  (try simp only [Act.put, List.setIfInBounds_toArray, List.set_cons_zero, List.set_cons_succ])
                  refine wpAnyH_take (i := 2) (v := ?v2) rfl (by kernel_rfl) (by kernel_rfl) (by kernel_rfl) (fun _ _ _ h => h) (Or.inl ⟨by rfl, ?y2⟩) (by assumption) ?r2
                  case y2 => (intro W hSw; (try dsimp only at hSw); go_simp; try with_reducible rfl)
                  (try simp only [Act.put, List.setIfInBounds_toArray, List.set_cons_zero, List.set_cons_succ])
                  refine wpAnyH_take (i := 3) (v := ?v3) rfl (by kernel_rfl) (by kernel_rfl) (by kernel_rfl) (fun _ _ _ h => h) (Or.inl ⟨by rfl, ?y3⟩) (by assumption) ?r3
                  case y3 => (intro W hSw; (try dsimp only at hSw); go_simp; try with_reducible rfl)
                  (try simp only [Act.put, List.setIfInBounds_toArray, List.set_cons_zero, List.set_cons_succ])
                  refine wpAnyH_take (i := 4) (v := ?v4) rfl (by kernel_rfl) (by kernel_rfl) (by kernel_rfl) (fun _ _ _ h => h) (Or.inl ⟨by rfl, ?y4⟩) (by assumption) ?r4
                  case y4 => (intro W hSw; (try dsimp only at hSw); go_simp; try with_reducible rfl)
                  (try simp only [Act.put, List.setIfInBounds_toArray, List.set_cons_zero, List.set_cons_succ])
                  refine wpAnyH_take (i := 5) (v := ?v5) rfl (by kernel_rfl) (by kernel_rfl) (by kernel_rfl) (fun _ _ _ h => h) (Or.inl ⟨by rfl, ?y5⟩) (by assumption) ?r5
                  case y5 => (intro W hSw; (try dsimp only at hSw); go_simp; try with_reducible rfl)
                  (try simp only [Act.put, List.setIfInBounds_toArray, List.set_cons_zero, List.set_cons_succ])
                  refine wpAnyH_take (i := 6) (v := ?v6) rfl (by kernel_rfl) (by kernel_rfl) (by kernel_rfl) (fun _ _ _ h => h) (Or.inl ⟨by rfl, ?y6⟩) (by assumption) ?r6
                  case y6 => (intro W hSw; (try dsimp only at hSw); go_simp; try with_reducible rfl)
                  (try simp only [Act.put, List.setIfInBounds_toArray, List.set_cons_zero, List.set_cons_succ])
                  refine wpAnyH_take (i := 7) (v := ?v7) rfl (by kernel_rfl) (by kernel_rfl) (by kernel_rfl) (fun _ _ _ h => h) (Or.inl ⟨by rfl, ?y7⟩) (by assumption) ?r7
                  case y7 => (intro W hSw; (try dsimp only at hSw); go_simp; try with_reducible rfl)
                  (try simp only [Act.put, List.setIfInBounds_toArray, List.set_cons_zero, List.set_cons_succ])
                  refine wpAnyH_take (i := 8) (v := ?v8) rfl (by kernel_rfl) (by kernel_rfl) (by kernel_rfl) (fun _ _ _ h => h) (Or.inl ⟨by rfl, ?y8⟩) (by assumption) ?r8
                  case y8 => (intro W hSw; (try dsimp only at hSw); go_simp; try with_reducible rfl)
                  (try simp only [Act.put, List.setIfInBounds_toArray, List.set_cons_zero, List.set_cons_succ])
                  refine wpAnyH_take (i := 9) (v := ?v9) rfl (by kernel_rfl) (by kernel_rfl) (by kernel_rfl) (fun _ _ _ h => h) (Or.inl ⟨by rfl, ?y9⟩) (by assumption) ?r9
                  case y9 => (intro W hSw; (try dsimp only at hSw); go_simp; try with_reducible rfl)
                  (try simp only [Act.put, List.setIfInBounds_toArray, List.set_cons_zero, List.set_cons_succ])
                  refine wpAnyH_take (i := 10) (v := ?v10) rfl (by kernel_rfl) (by kernel_rfl) (by kernel_rfl) (fun _ _ _ h => h) (Or.inl ⟨by rfl, ?y10⟩) (by assumption) ?r10
                  case y10 => (intro W hSw; (try dsimp only at hSw); go_simp; try with_reducible rfl)
                  (try simp only [Act.put, List.setIfInBounds_toArray, List.set_cons_zero, List.set_cons_succ])
                  refine wpAnyH_take (i := 11) (v := ?v11) rfl (by kernel_rfl) (by kernel_rfl) (by kernel_rfl) (fun _ _ _ h => h) (Or.inl ⟨by rfl, ?y11⟩) (by assumption) ?r11
                  case y11 => (intro W hSw; (try dsimp only at hSw); go_simp; try with_reducible rfl)
                  (try simp only [Act.put, List.setIfInBounds_toArray, List.set_cons_zero, List.set_cons_succ])
                  refine wpAnyH_take (i := 12) (v := ?v12) rfl (by kernel_rfl) (by kernel_rfl) (by kernel_rfl) (fun _ _ _ h => h) (Or.inl ⟨by rfl, ?y12⟩) (by assumption) ?r12
                  case y12 => (intro W hSw; (try dsimp only at hSw); go_simp; try with_reducible rfl)
                  (try simp only [Act.put, List.setIfInBounds_toArray, List.set_cons_zero, List.set_cons_succ])
                  refine wpAnyH_take (i := 13) (v := ?v13) rfl (by kernel_rfl) (by kernel_rfl) (by kernel_rfl) (fun _ _ _ h => h) (Or.inl ⟨by rfl, ?y13⟩) (by assumption) ?r13
                  case y13 => (intro W hSw; (try dsimp only at hSw); go_simp; try with_reducible rfl)
                  (try simp only [Act.put, List.setIfInBounds_toArray, List.set_cons_zero, List.set_cons_succ])
                  refine wpAnyH_take (i := 14) (v := ?v14) rfl (by kernel_rfl) (by kernel_rfl) (by kernel_rfl) (fun _ _ _ h => h) (Or.inl ⟨by rfl, ?y14⟩) (by assumption) ?r14
                  case y14 => (intro W hSw; (try dsimp only at hSw); go_simp; try with_reducible rfl)
                  (try simp only [Act.put, List.setIfInBounds_toArray, List.set_cons_zero, List.set_cons_succ])
                  refine wpAnyH_take (i := 15) (v := ?v15) rfl (by kernel_rfl) (by kernel_rfl) (by kernel_rfl) (fun _ _ _ h => h) (Or.inl ⟨by rfl, ?y15⟩) (by assumption) ?r15
                  case y15 => (intro W hSw; (try dsimp only at hSw); go_simp; try with_reducible rfl)
                  (try simp only [Act.put, List.setIfInBounds_toArray, List.set_cons_zero, List.set_cons_succ])
                  refine wpAnyH_take (i := 16) (v := ?v16) rfl (by kernel_rfl) (by kernel_rfl) (by kernel_rfl) (fun _ _ _ h => h) (Or.inl ⟨by rfl, ?y16⟩) (by assumption) ?r16
                  case y16 => (intro W hSw; (try dsimp only at hSw); go_simp; try with_reducible rfl)
                  (try simp only [Act.put, List.setIfInBounds_toArray, List.set_cons_zero, List.set_cons_succ])
                  refine wpAnyH_ready (rs := [1, 17]) (by kernel_rfl) (by simp) ?_
                  refine AllReadyH.cons rfl (fun K hK => ?_) (AllReadyH.cons rfl (fun K hK => ?_) AllReadyH.nil)
                  · go_simp
                    refine hK.out _ _ (by (first | exact HS4.out _ (Kp.base HKD.out) | exact HS4.out _ (Kp.base (Below.alloc HKD.out (Kp.size HKD.out) _)) | exact HS4.out _ (Kp.base HKW.out) | exact HS4.out _ (Kp.base HK6.out))) (fun hHeld => ?_)
                    clear hK K
                    (try simp only [Act.put, List.setIfInBounds_toArray, List.set_cons_zero, List.set_cons_succ])
                    refine wpAnyH_ready (rs := [17]) (by kernel_rfl) (by simp) ?_
                    refine AllReadyH.cons rfl (fun K hK => ?_) AllReadyH.nil
                    · go_simp
                      refine hK.out _ _ (by (first | exact HS4.out _ (Kp.base HKD.out) | exact HS4.out _ (Kp.base (Below.alloc HKD.out (Kp.size HKD.out) _)) | exact HS4.out _ (Kp.base HKW.out) | exact HS4.out _ (Kp.base HK6.out))) (fun hHeld => ?_)
                      clear hK K
                      (try simp only [Act.put, List.setIfInBounds_toArray, List.set_cons_zero, List.set_cons_succ])
                      refine wpAnyH_ready (rs := [18]) (by kernel_rfl) (by simp) ?_
                      refine AllReadyH.cons rfl (fun K hK => ?_) AllReadyH.nil
                      · (refine step_push (by rfl) _ _ 22 (by rfl) 4 (.bool false) 1 Tryd.underlying22 info4 (by decide) (by decide) (w.heap.size + 1) (.slice aa na cna) _ (.bool (!(a == b))) HDD.out.acc (Kp.size HKD.out) (by rfl) HALE.out (by rfl) _ (by rfl) (by rfl) ?_; intro v6 w6 hp6; obtain ⟨a6, n6, c6, rfl, -⟩ := hp6.lst.shape'; have o6 := HDD.out.obAcc hp6; have q6 := (cells_get o6 2); have z6 := cells_free o6 2; have hl6 := (lt_of_block o6); have HE6 := Lib.hid (HDD.out.pushAcc hp6); have HKW := Lib.hid (show Kp w w6 from HKD.out.grown hp6.grow (Kp.size HKD.out) (fun x hx => HDD.out.acc.ge hx)); have HK6 := Lib.hid (show Kp w (w6.setCell ⟨w.heap.size + 1, 2, none⟩ (.slice a6 n6 c6)) from (HKD.out.grown hp6.grow (Kp.size HKD.out) (fun x hx => HDD.out.acc.ge hx)).setCell (p := ⟨w.heap.size + 1, 2, none⟩) (Nat.le_refl _) _); simp at q6; clear hp6 o6)
                        refine hK.out _ _ (by (first | exact HS4.out _ (Kp.base HKD.out) | exact HS4.out _ (Kp.base (Below.alloc HKD.out (Kp.size HKD.out) _)) | exact HS4.out _ (Kp.base HKW.out) | exact HS4.out _ (Kp.base HK6.out))) (fun hHeld => ?_)
                        clear hK K
                        (try simp only [Act.put, List.setIfInBounds_toArray, List.set_cons_zero, List.set_cons_succ])
                        refine wpAnyH_take (i := 19) (v := ?v17) rfl (by kernel_rfl) (by kernel_rfl) (by kernel_rfl) (fun _ _ _ h => h) (Or.inl ⟨by rfl, ?y17⟩) (by assumption) ?r17
                        case y17 => (intro W hSw; (try dsimp only at hSw); go_simp; try with_reducible rfl)
                        (try simp only [Act.put, List.setIfInBounds_toArray, List.set_cons_zero, List.set_cons_succ])
                        refine wpAnyH_ready (rs := [20]) (by kernel_rfl) (by simp) ?_
                        refine AllReadyH.cons rfl (fun K hK => ?_) AllReadyH.nil
                        · go_simp
                          refine hK.out _ _ (by (first | exact HS4.out _ (Kp.base HKD.out) | exact HS4.out _ (Kp.base (Below.alloc HKD.out (Kp.size HKD.out) _)) | exact HS4.out _ (Kp.base HKW.out) | exact HS4.out _ (Kp.base HK6.out))) (fun hHeld => ?_)
                          clear hK K
                          (try simp only [Act.put, List.setIfInBounds_toArray, List.set_cons_zero, List.set_cons_succ])
                          refine wpAnyH_done (by kernel_rfl) ?_ _
                          go_wp2_with fail
                          go_meet
                          exact ⟨_, HE6.out, HK6.out⟩
                  · go_simp
                    refine hK.out _ _ (by (first | exact HS4.out _ (Kp.base HKD.out) | exact HS4.out _ (Kp.base (Below.alloc HKD.out (Kp.size HKD.out) _)) | exact HS4.out _ (Kp.base HKW.out) | exact HS4.out _ (Kp.base HK6.out))) (fun hHeld => ?_)
                    clear hK K
                    (try simp only [Act.put, List.setIfInBounds_toArray, List.set_cons_zero, List.set_cons_succ])
                    refine wpAnyH_ready (rs := [1]) (by kernel_rfl) (by simp) ?_
                    refine AllReadyH.cons rfl (fun K hK => ?_) AllReadyH.nil
                    · go_simp
                      refine hK.out _ _ (by (first | exact HS4.out _ (Kp.base HKD.out) | exact HS4.out _ (Kp.base (Below.alloc HKD.out (Kp.size HKD.out) _)) | exact HS4.out _ (Kp.base HKW.out) | exact HS4.out _ (Kp.base HK6.out))) (fun hHeld => ?_)
                      clear hK K
                      (try simp only [Act.put, List.setIfInBounds_toArray, List.set_cons_zero, List.set_cons_succ])
                      refine wpAnyH_ready (rs := [18]) (by kernel_rfl) (by simp) ?_
                      refine AllReadyH.cons rfl (fun K hK => ?_) AllReadyH.nil
                      · (refine step_push (by rfl) _ _ 22 (by rfl) 4 (.bool false) 1 Tryd.underlying22 info4 (by decide) (by decide) (w.heap.size + 1) (.slice aa na cna) _ (.bool (!(a == b))) HDD.out.acc (Kp.size HKD.out) (by rfl) HALE.out (by rfl) _ (by rfl) (by rfl) ?_; intro v6 w6 hp6; obtain ⟨a6, n6, c6, rfl, -⟩ := hp6.lst.shape'; have o6 := HDD.out.obAcc hp6; have q6 := (cells_get o6 2); have z6 := cells_free o6 2; have hl6 := (lt_of_block o6); have HE6 := Lib.hid (HDD.out.pushAcc hp6); have HKW := Lib.hid (show Kp w w6 from HKD.out.grown hp6.grow (Kp.size HKD.out) (fun x hx => HDD.out.acc.ge hx)); have HK6 := Lib.hid (show Kp w (w6.setCell ⟨w.heap.size + 1, 2, none⟩ (.slice a6 n6 c6)) from (HKD.out.grown hp6.grow (Kp.size HKD.out) (fun x hx => HDD.out.acc.ge hx)).setCell (p := ⟨w.heap.size + 1, 2, none⟩) (Nat.le_refl _) _); simp at q6; clear hp6 o6)
                        refine hK.out _ _ (by (first | exact HS4.out _ (Kp.base HKD.out) | exact HS4.out _ (Kp.base (Below.alloc HKD.out (Kp.size HKD.out) _)) | exact HS4.out _ (Kp.base HKW.out) | exact HS4.out _ (Kp.base HK6.out))) (fun hHeld => ?_)
                        clear hK K
                        (try simp only [Act.put, List.setIfInBounds_toArray, List.set_cons_zero, List.set_cons_succ])
                        refine wpAnyH_take (i := 19) (v := ?v18) rfl (by kernel_rfl) (by kernel_rfl) (by kernel_rfl) (fun _ _ _ h => h) (Or.inl ⟨by rfl, ?y18⟩) (by assumption) ?r18
                        case y18 => (intro W hSw; (try dsimp only at hSw); go_simp; try with_reducible rfl)
                        (try simp only [Act.put, List.setIfInBounds_toArray, List.set_cons_zero, List.set_cons_succ])
                        refine wpAnyH_ready (rs := [20]) (by kernel_rfl) (by simp) ?_
                        refine AllReadyH.cons rfl (fun K hK => ?_) AllReadyH.nil
                        · go_simp
                          refine hK.out _ _ (by (first | exact HS4.out _ (Kp.base HKD.out) | exact HS4.out _ (Kp.base (Below.alloc HKD.out (Kp.size HKD.out) _)) | exact HS4.out _ (Kp.base HKW.out) | exact HS4.out _ (Kp.base HK6.out))) (fun hHeld => ?_)
                          clear hK K
                          (try simp only [Act.put, List.setIfInBounds_toArray, List.set_cons_zero, List.set_cons_succ])
                          refine wpAnyH_done (by kernel_rfl) ?_ _
                          go_wp2_with fail
                          go_meet
                          exact ⟨_, HE6.out, HK6.out⟩
-- }fast
                case rest =>
                  obtain ⟨va6, h1, h2⟩ := hcut
                  have HE := Lib.hid h1
                  have HKE := Lib.hid h2
                  have hc3 := h1.c3
                  have hlZ3 := h1.lt
                  have hz3 := cells_free h1.at_ 3
                  have HIL := Lib.hid (show (items.map Prod.fst).length ≤ 100000000 by
                    have := congrArg List.length HI.out
                    rw [List.length_map, List.length_map, List.length_take] at this
                    have h9 := HNLn.out
                    rw [List.length_map, this]; omega)
                  obtain ⟨an, nn, cn, rfl, -⟩ := h1.nxt.shape'
                  have HNB := Lib.hid (HNT.out p q hlp hlq)
                  clear h1 h2 ea eb x2 b0 b1 b2 b3 e0 e1 e2 e3 cV cU
                  go_wp2_with (at_builtin; refine wpList_push rfl _ _ 23 rfl 52 (.slice none 0 0) 24 Tryd.underlying23 info54 (by decide) (by decide) (w.heap.size + 1) (.slice an nn cn) _ (.slice a9 c c9) HE.out.nxt (Kp.size HKE.out) rfl HIL.out rfl _ rfl rfl ?_; intro v5 w5 hp5; obtain ⟨a5, n5, cp5, rfl, -⟩ := hp5.lst.shape'; have o5 := HE.out.obNext hp5; have q5 := (cells_get o5 3); have z5 := cells_free o5 3; have hl5 := (lt_of_block o5); have HE5 := Lib.hid (HE.out.pushNext [] [] hp5); have HK5 := Lib.hid ((HKE.out.grown hp5.grow (Kp.size HKE.out) (fun x hx => HE.out.nxt.ge hx)).setCell (p := ⟨w.heap.size + 1, 3, none⟩) (Nat.le_refl _) (.slice a5 n5 cp5)); simp at q5; clear hp5 o5)
                  go_roundw
                  case rel =>
                    refine ⟨q + 1, va6, .slice a5 n5 cp5, items ++ [(.slice a9 c c9, (rowPQ l m p q).map (Value.int .i64))], hlq, by go_num, ?_, ?_, HK5.out⟩
                    · have h1 := HE5.out
                      rw [List.nil_append] at h1
                      rw [show p * n2 + (q + 1) = p * n2 + q + 1 from rfl, HNA.out, List.map_append]
                      exact h1
                    · rw [List.map_append, HI.out, show p * n2 + (q + 1) = p * n2 + q + 1 from rfl, HNB.out, List.map_append]
                      rfl
                  case measure => simp [intOf]; omega
          · obtain rfl : q = n2 := by omega
            have HNEXT := Lib.hid (show (p + 1) * q = p * q + q from Nat.succ_mul p q)
            clear hk
            go_wp2_with fail
            go_roundw
            case rel => exact ⟨p + 1, _, _, _, hlp, by go_num, by rw [HNEXT.out]; exact HD.out, by rw [HNEXT.out]; exact HI.out, HK.out⟩
            case measure => simp [intOf]; omega
      · obtain rfl : p = n1 := by omega
        have HBU := Lib.hid (show Built wr (w.heap.size + 1) va vn AC NX from Built.of_bld HD.out (by rw [HALL.out]) (by rw [HI.out, HNLL.out]))
        have hat := HD.out.at_
        have hZl := HD.out.lt
        obtain ⟨aa, na, cna, rfl, -⟩ := HD.out.acc.shape'
        obtain ⟨an, nn, cnn, rfl, -⟩ := HD.out.nxt.shape'
        have d0 := cells_get hat 0
        have d1 := cells_get hat 1
        have d2 := cells_get hat 2
        have d3 := cells_get hat 3
        simp at d0 d1 d2 d3
        have hres := Kp.res hk
        have r0 := cells_get hres 0
        have r1 := cells_get hres 1
        have r2 := cells_get hres 2
        have r3 := cells_get hres 3
        have f0 := cells_free hres 0
        have f1 := cells_free hres 1
        have f2 := cells_free hres 2
        have f3 := cells_free hres 3
        have hlS := lt_of_block hres
        have p0 := cells_set hres 0 (.int .i64 k)
        have p1 := cells_set p0 1 (.int .i64 ((P0 : Int) + st2))
        have p2 := cells_set p1 2 (.slice aa na cna)
        have p3 := cells_set p2 3 (.slice an nn cnn)
        simp at r0 r1 r2 r3 p3
        have g0 := cells_get p3 0
        have g1 := cells_get p3 1
        have g2 := cells_get p3 2
        have g3 := cells_get p3 3
        simp at g0 g1 g2 g3
        have HG := Lib.hid (And.intro g0 (And.intro g1 (And.intro g2 g3)))
        have HBS := Lib.hid (Kp.base hk)
        clear p0 p1 p2 p3 g0 g1 g2 g3 hres hat hk
        go_wp2_with fail
        obtain ⟨g0, g1, g2, g3⟩ := HG.out
        refine bodyPost_ret (v := .agg #[.int .i64 k, .int .i64 ((P0 : Int) + st2), .slice aa na cna, .slice an nn cnn]) (by simp [results, Tryd.results51, go_sem, g0, g1, g2, g3]) rfl ⟨.slice aa na cna, .slice an nn cnn, by rw [HKP.out, HSP.out], ?_, ?_⟩
        · exact (((((HBU.out.setLow (a := ⟨w.heap.size, 0, none⟩) (Nat.lt_succ_self _) _).setLow (a := ⟨w.heap.size, 1, none⟩) (Nat.lt_succ_self _) _).setLow (a := ⟨w.heap.size, 2, none⟩) (Nat.lt_succ_self _) _).setLow (a := ⟨w.heap.size, 3, none⟩) (Nat.lt_succ_self _) _).mono (Nat.le_succ _))
        · exact ((((HBS.out.setCell (p := ⟨w.heap.size, 0, none⟩) (Nat.le_refl _) _).setCell (p := ⟨w.heap.size, 1, none⟩) (Nat.le_refl _) _).setCell (p := ⟨w.heap.size, 2, none⟩) (Nat.le_refl _) _).setCell (p := ⟨w.heap.size, 3, none⟩) (Nat.le_refl _) _)
end Go.Proofs.YtaimealknkhfbaaDoor.Differ
/- What the model's function that sets the truth values of pairs hands back.
   Conditions: stated at each theorem. -/
namespace Go.Proofs.YtaimealknkhfbaaDoor.PairS
set_option linter.unusedVariables false
set_option linter.unusedSimpArgs false
set_option maxRecDepth 100000
open Go.RowKit Mem Copy Rel Valid Heap Push Columns Bld TidyMath TidyAuto TidyRight SpecFiner SpecRight PairMath Differ

/-- Truth values by a rule. -/
def bvF (n : Nat) (f : Nat → Bool) : List Value := (List.range n).map fun i => Value.bool (f i)
theorem bvF_length (n : Nat) (f : Nat → Bool) : (bvF n f).length = n := by simp [bvF]
theorem bvF_set (n : Nat) (f : Nat → Bool) (k : Nat) (x : Bool) : (bvF n f).set k (.bool x) = bvF n fun i => if i = k then x else f i := by
  apply List.ext_getElem
  · simp [bvF]
  · intro i h1 h2
    simp [bvF, List.getElem_set]
    by_cases e : k = i
    · simp [e]
    · simp [e, Ne.symm e]
theorem bvF_congr {n : Nat} {f g : Nat → Bool} (h : ∀ i, i < n → f i = g i) : bvF n f = bvF n g :=
  List.map_congr_left fun i hi => by rw [h i (List.mem_range.1 hi)]
/-- The copy whose truth values are turned one by one. -/
structure Fl (w : World) (B X : Nat) (k st : Int) (g n c : Nat) (vn : Value) (f : Nat → Bool) (nx : List (List Int)) : Prop where
  acc : Lst w B 4 (.slice (some ⟨g, 0, none⟩) n c) (bvF n f)
  rows : Built w B (.slice none 0 0) vn [] nx
  at_ : w.heap[X]? = some (.cells #[.int .i64 k, .int .i64 st, .slice (some ⟨g, 0, none⟩) n c, vn] 27 (0, 0))
section
variable {w w' : World} {B X : Nat} {k st : Int} {g n c : Nat} {vn : Value} {f : Nat → Bool} {nx : List (List Int)}
theorem Fl.lt (h : Fl w B X k st g n c vn f nx) : X < w.heap.size := lt_of_block h.at_
theorem Fl.ne (h : Fl w B X k st g n c vn f nx) : g ≠ X := fun e => block_apart h.acc h.at_ (by decide) (by show some g = some X; rw [e])
theorem Fl.set (h : Fl w B X k st g n c vn f nx) {i : Nat} (hi : i < n) (b : Bool) : Fl (w.setCell ⟨g, i, none⟩ (.bool b)) B X k st g n c vn (fun q => if q = i then b else f q) nx := by
  refine ⟨?_, ?_, ?_⟩
  · have h1 := h.acc.set (i := i) (by rw [bvF_length]; exact hi) (.bool b)
    rw [bvF_set] at h1
    exact h1
  · obtain ⟨items, h1, h2, h3⟩ := h.rows.rows
    exact ⟨Lst.nil _ _ _, items, ⟨fun p hp => (h1.lst p hp).setOther (h.acc.apart (h1.lst p hp) (by decide) g rfl) _, h1.apart⟩, h2.setOther (h.acc.apart h2 (by decide) g rfl) _, h3⟩
  · rw [Below.heap_setCell _ _ _ _ (fun e => h.ne (show g = X from e.symm))]; exact h.at_
theorem Fl.congr {f' : Nat → Bool} (h : Fl w B X k st g n c vn f nx) (e : ∀ i, i < n → f i = f' i) : Fl w B X k st g n c vn f' nx :=
  ⟨by rw [← bvF_congr e]; exact h.acc, h.rows, h.at_⟩
theorem Fl.drew (h : Fl w B X k st g n c vn f nx) : Fl w.drew B X k st g n c vn f nx := ⟨h.acc, h.rows.drewN 1, h.at_⟩
end


theorem pair_bools (t : Bool → Bool → Bool) (l m : L) : (pairL t l m).acc.map Value.bool = bvF (l.acc.length * m.acc.length) (fun x => t (l.acc.getD (x / m.acc.length) false) (m.acc.getD (x % m.acc.length) false)) := by
  unfold pairL bvF
  rw [List.map_map]
  rfl

set_option maxHeartbeats 8000000 in
theorem pairsBoth (l m : L) (hl : l.Ok) (hm : m.Ok) (hk : l.k = m.k) (bp bq : Nat) (w : World) (B : Nat) (h : RelPtr w B bp (relOf l)) (h' : RelPtr w B bq (relOf m)) (hB : B ≤ w.heap.size) (hbp : bp < w.heap.size) (hbq : bq < w.heap.size) (hnm : l.acc.length * m.acc.length ≤ 1000) :
    Calls Tryd.prog 34 #[.pointer (some ⟨bp, 0, none⟩), .pointer (some ⟨bq, 0, none⟩), .int .i64 1] w fun e w' => ∃ va vn, e = .returned (.agg #[.int .i64 (pairL (fun a b => a && b) l m).k, .int .i64 (pairL (fun a b => a && b) l m).start, va, vn]) ∧ Built w' w.heap.size va vn (pairL (fun a b => a && b) l m).acc (relOf (pairL (fun a b => a && b) l m)).next ∧ Below w.heap.size w w' := by
  have hl0 : 0 < l.acc.length := Nat.lt_of_le_of_lt (Nat.zero_le _) hl.st
  have hm0 : 0 < m.acc.length := Nat.lt_of_le_of_lt (Nat.zero_le _) hm.st
  obtain ⟨hs1, hs2⟩ := sides hl0 hm0 hnm
  have HDF := Lib.hid (Differ.differ l m hl hm hk bp bq (w.alloc (.cells #[Value.int .i64 0, .int .i64 0, .slice none 0 0, .slice none 0 0] 27)) B (h.below ((Below.refl _ _).alloc (Nat.le_refl _) _) hB hbp) (h'.below ((Below.refl _ _).alloc (Nat.le_refl _) _) hB hbq) (by rw [size_alloc']; omega) (by rw [size_alloc']; omega) (by rw [size_alloc']; omega) hnm)
  rw [size_alloc'] at HDF
  have HF1 := Lib.hid (pair_bools dif l m)
  have HF2 := Lib.hid (pair_bools (fun a b => a && b) l m)
  have HFL := Lib.hid (pairL_len dif l m)
  have e1 : ((pairL dif l m).k : Int) = (pairL (fun a b => a && b) l m).k ∧ ((pairL dif l m).start : Int) = (pairL (fun a b => a && b) l m).start ∧ (relOf (pairL dif l m)).next = (relOf (pairL (fun a b => a && b) l m)).next := ⟨rfl, rfl, rfl⟩
  rw [← e1.1, ← e1.2.1, ← e1.2.2]
  clear e1
  obtain ⟨ba, oa, ca, bb, ob, cb, V, hba, hbb, hptr, hcell, -⟩ := laidP hl h hB hbp
  obtain ⟨bc, oc, cc, bd, od, cd, U, hbc, hbd, hptr', hcell', -⟩ := laidP hm h' hB hbq
  have HPB := Lib.hid (fun W hW => (hptr W hW).2.2.1)
  have HQB := Lib.hid (fun W hW => (hptr' W hW).2.2.1)
  have HC1 := Lib.hid (fun W hW p hp => (hcell W hW p hp).1)
  have HC2 := Lib.hid (fun W hW p hp => (hcell' W hW p hp).1)
  have HML := Lib.hid (fun (x y : Nat) (hx : x < l.acc.length) (hy : y < m.acc.length) => And.intro (mul_le_pair hx hy hnm) (pair_lt hx hy))
  obtain ⟨AD, hAD⟩ : ∃ x, x = (pairL dif l m).acc := ⟨_, rfl⟩
  obtain ⟨AT, hAT⟩ : ∃ x, x = (pairL (fun a b => a && b) l m).acc := ⟨_, rfl⟩
  obtain ⟨NX, hNX⟩ : ∃ x, x = (relOf (pairL dif l m)).next := ⟨_, rfl⟩
  obtain ⟨k, hkk⟩ : ∃ x : Int, x = ((pairL dif l m).k : Int) := ⟨_, rfl⟩
  obtain ⟨st, hst⟩ : ∃ x : Int, x = ((pairL dif l m).start : Int) := ⟨_, rfl⟩
  rw [← hAD, ← hNX, ← hkk, ← hst] at HDF
  rw [← hAD] at HF1 HFL
  rw [← hAT] at HF2
  rw [← hAT, ← hNX, ← hkk, ← hst]
  obtain ⟨n1, hn1⟩ : ∃ n, n = l.acc.length := ⟨_, rfl⟩
  obtain ⟨n2, hn2⟩ : ∃ n, n = m.acc.length := ⟨_, rfl⟩
  rw [← hn1] at hl0 hs1 HPB HC1
  rw [← hn2] at hm0 hs2 HQB HC2
  rw [← hn1, ← hn2] at hnm HML HF1 HF2 HFL
  obtain ⟨fa, hfa⟩ : ∃ f : Nat → Bool, f = fun p => l.acc.getD p false := ⟨_, rfl⟩
  obtain ⟨fb, hfb⟩ : ∃ f : Nat → Bool, f = fun p => m.acc.getD p false := ⟨_, rfl⟩
  have HC1 := Lib.hid (show ∀ W, Below w.heap.size w W → ∀ p, p < n1 → W.cell? ⟨ba, oa + p, none⟩ = some (.bool (fa p)) from by rw [hfa]; exact HC1.out)
  have HC2 := Lib.hid (show ∀ W, Below w.heap.size w W → ∀ p, p < n2 → W.cell? ⟨bc, oc + p, none⟩ = some (.bool (fb p)) from by rw [hfb]; exact HC2.out)
  obtain ⟨fD, hfD⟩ : ∃ f : Nat → Bool, f = fun x => dif (l.acc.getD (x / n2) false) (m.acc.getD (x % n2) false) := ⟨_, rfl⟩
  obtain ⟨fT, hfT⟩ : ∃ f : Nat → Bool, f = fun x => (fun a b => a && b) (l.acc.getD (x / n2) false) (m.acc.getD (x % n2) false) := ⟨_, rfl⟩
  rw [← hfD] at HF1
  rw [← hfT] at HF2
  have HFT := Lib.hid (show ∀ i j, j < n2 → fT (i * n2 + j) = (fun a b => a && b) (fa i) (fb j) from fun i j hj => by rw [hfT, hfa, hfb]; show (fun a b => a && b) _ _ = _; rw [pair_div hj, pair_mod hj])
  obtain ⟨nn, hnn⟩ : ∃ n, n = n1 * n2 := ⟨_, rfl⟩
  rw [← hnn] at HF1 HF2 HFL hnm
  have HNN := Lib.hid hnn
  have hnn0 : 0 < nn := by rw [hnn]; exact Nat.mul_pos hl0 hm0
  clear hAD hAT hNX hkk hst hn1 hn2 hfa hfb hfD hfT hnn hl hm hk h h' hB hptr hptr' hcell hcell'
  have hwp1 := hbp
  go_enter Tryd.func34, Tryd.ntmps34
  go_wp2_with fail
  refine HDF.out.mono ?_
  rintro e w1 ⟨va, vn, rfl, hbu, hb1⟩
  have hbu' := hbu
  obtain ⟨hacc, hrows⟩ := hbu'
  rw [HF1.out] at hacc
  obtain ⟨aa, na, cg, rfl, HNA⟩ := hacc.shape'
  have hna : na = nn := by rw [HNA.out, bvF_length]
  subst hna
  obtain ⟨g, rfl, -⟩ := hacc.addr (by rw [bvF_length]; exact hnn0)
  obtain ⟨items, -, hnx, -⟩ := hbu.rows
  obtain ⟨an, mn, cn, rfl, -⟩ := hnx.shape'
  have hk1 : Kp w w1 := hb1
  obtain ⟨X, hX⟩ : ∃ X, X = w1.heap.size := ⟨_, rfl⟩
  have HXS := Lib.hid (show w.heap.size + 1 ≤ X from by rw [hX]; exact Kp.size hk1)
  have HD0 := Lib.hid (show Fl (w1.alloc (.cells #[.int .i64 k, .int .i64 st, .slice (some ⟨g, 0, none⟩) na cg, .slice an mn cn] 27)) (w.heap.size + 1) X k st g na cg (.slice an mn cn) (fun x => if x < 0 * n2 + 0 then fT x else fD x) NX from by
    refine ⟨?_, ?_, by rw [hX]; exact heap_alloc_new _ _⟩
    · rw [Nat.zero_mul, bvF_congr (g := fD) (fun q hq => if_neg (Nat.not_lt_zero q))]; exact hacc.alloc _
    · have hr : Built w1 (w.heap.size + 1) (.slice none 0 0) (.slice an mn cn) [] NX := ⟨Lst.nil _ _ _, hrows⟩
      exact hr.below ((Below.refl _ _).alloc (Nat.le_refl _) _))
  have HK0 := Lib.hid (show Kp w (w1.alloc (.cells #[.int .i64 k, .int .i64 st, .slice (some ⟨g, 0, none⟩) na cg, .slice an mn cn] 27)) from Below.alloc hk1 (Kp.size hk1) _)
  have q2 := HQB.out _ (Kp.base hk1)
  have lq : bq < w1.heap.size := by have := Kp.size hk1; omega
  clear hbu hb1 hacc hrows hnx hk1 HDF
  go_wp2_with fail
  rw [← hX]
  clear hX q2 lq
  go_loopw [9, 10, 11, 12] (fun s9 _ _ _ wr => ∃ i : Nat, i ≤ n1 ∧ s9 = .int .i64 i ∧ Fl wr (w.heap.size + 1) X k st g na cg (.slice an mn cn) (fun x => if x < i * n2 + 0 then fT x else fD x) NX ∧ Kp w wr) (fun s9 _ _ _ _ => n1 - (intOf s9).toNat)
  case atStart => exact ⟨0, Nat.zero_le _, rfl, HD0.out, HK0.out⟩
  case round =>
    obtain ⟨i, hi, rfl, hd, hk⟩ := hrel
    have HD := Lib.hid hd
    have HK := Lib.hid hk
    have q1 := HPB.out _ (Kp.base hk)
    have lp : bp < wr.heap.size := by have := Kp.size hk; omega
    clear hd hk HD0 HK0
    by_cases hlt : i < n1
    · go_wp2_with fail
      go_loopw [10, 11, 12] (fun s10 _ _ wr2 => ∃ j : Nat, j ≤ n2 ∧ s10 = .int .i64 j ∧ Fl wr2 (w.heap.size + 1) X k st g na cg (.slice an mn cn) (fun x => if x < i * n2 + j then fT x else fD x) NX ∧ Kp w wr2) (fun s10 _ _ _ => n2 - (intOf s10).toNat)
      case atStart => exact ⟨0, Nat.zero_le _, rfl, HD.out, HK.out⟩
      case round =>
        obtain ⟨j, hj, rfl, hd, hk⟩ := hrel
        have HD2 := Lib.hid hd
        have HK2 := Lib.hid hk
        clear hd HD HK q1 lp
        by_cases hlj : j < n2
        · have ea := HC1.out _ (Kp.base hk) i hlt
          have eb := HC2.out _ (Kp.base hk) j hlj
          have q1 := HPB.out _ (Kp.base hk)
          have q2 := HQB.out _ (Kp.base hk)
          have lp : bp < wr.heap.size := by have := Kp.size hk; omega
          have lq : bq < wr.heap.size := by have := Kp.size hk; omega
          have la : ba < wr.heap.size := by have := Kp.size hk; omega
          have lb : bc < wr.heap.size := by have := Kp.size hk; omega
          obtain ⟨⟨hP1, hP2⟩, hP3⟩ := HML.out i j hlt hlj
          rw [← HNN.out] at hP3
          have HTV := Lib.hid (HFT.out i j hlj)
          obtain ⟨a, ha⟩ : ∃ a, a = fa i := ⟨_, rfl⟩
          obtain ⟨b, hb⟩ : ∃ b, b = fb j := ⟨_, rfl⟩
          rw [← ha, ← hb] at HTV
          rw [← ha] at ea
          rw [← hb] at eb
          obtain ⟨P, hP⟩ : ∃ P, P = i * n2 := ⟨_, rfl⟩
          have hmul : (i : Int) * (n2 : Int) = (P : Int) := by rw [hP]; exact (Int.natCast_mul i n2).symm
          have HPE := Lib.hid hP
          rw [← hP] at hP1 hP2 hP3
          obtain ⟨y, hy⟩ : ∃ y, y = P + j := ⟨_, rfl⟩
          have hsum : (P : Int) + (j : Int) = (y : Int) := by rw [hy]; exact (Int.natCast_add P j).symm
          rw [← hy] at hP2 hP3
          have HYE := Lib.hid (show y = i * n2 + j from by rw [hy, hP])
          have hwP : IntKind.i64.wrap (P : Int) = (P : Int) := by rw [IntKind.wrap_i64]; omega
          have hwy : IntKind.i64.wrap (y : Int) = (y : Int) := by rw [IntKind.wrap_i64]; omega
          have hy0 : (0 : Int) ≤ (y : Int) := Int.natCast_nonneg _
          have hy1 : (y : Int) < (na : Int) := by omega
          have hat := HD2.out.at_
          have x2 := cells_get hat 2
          simp at x2
          have hXl := HD2.out.lt
          have hgX := HD2.out.ne
          have c9 := HD2.out.acc.cellOf (i := y) (by rw [bvF_length]; exact hP3)
          have f9 := HD2.out.acc.free y
          have hgl := HD2.out.acc.lt (k := g) rfl
          have c9' : wr.cell? ⟨g, y, none⟩ = some (.bool (fD y)) := by rw [c9]; simp [bvF, HYE.out]
          obtain ⟨z, hz⟩ : ∃ z, z = fD y := ⟨_, rfl⟩
          rw [← hz] at c9'
          clear c9 ha hb hP hy hz hk hat
          have HTV := Lib.hid (show fT y = (a && b) from by rw [HYE.out]; exact HTV.out)
          have HSET := Lib.hid (show ∀ W, Fl W (w.heap.size + 1) X k st g na cg (.slice an mn cn) (fun x => if x < i * n2 + j then fT x else fD x) NX → Fl (W.setCell ⟨g, y, none⟩ (.bool (a && b))) (w.heap.size + 1) X k st g na cg (.slice an mn cn) (fun x => if x < i * n2 + (j + 1) then fT x else fD x) NX from fun W hW => by
            refine (hW.set (i := y) hP3 (a && b)).congr fun q hq => ?_
            by_cases e : q = y
            · subst e
              rw [if_pos rfl, if_pos (by have := HYE.out; omega), HTV.out]
            · have : (q < i * n2 + (j + 1)) = (q < i * n2 + j) := by apply propext; have := HYE.out; constructor <;> intro h <;> omega
              simp only [if_neg e, this])
          have HKS := Lib.hid (show ∀ W, Kp w W → ∀ u, Kp w (W.setCell ⟨g, y, none⟩ u) from fun W hW u => hW.setCell (p := ⟨g, y, none⟩) (HD2.out.acc.ge (k := g) rfl) u)
          cases a <;> cases b
          all_goals
            go_wp2_with fail
            go_roundw
            case rel => exact ⟨j + 1, hlj, by go_num, HSET.out _ HD2.out, HKS.out _ HK2.out _⟩
            case measure => simp [intOf]; omega
        · obtain rfl : j = n2 := by omega
          have HNEXT := Lib.hid (show (i + 1) * j + 0 = i * j + j from Nat.succ_mul i j)
          clear hk
          go_wp2_with fail
          go_roundw
          case rel => exact ⟨i + 1, hlt, by go_num, by rw [HNEXT.out]; exact HD2.out, HK2.out⟩
          case measure => simp [intOf]; omega
    · obtain rfl : i = n1 := by omega
      have HB7 := Lib.hid (show Built wr (w.heap.size + 1) (.slice (some ⟨g, 0, none⟩) na cg) (.slice an mn cn) AT NX from by
        refine ⟨?_, HD.out.rows.rows⟩
        rw [HF2.out, bvF_congr (g := fun x => if x < i * n2 + 0 then fT x else fD x) (fun q hq => (if_pos (by have := HNN.out; omega)).symm)]
        exact HD.out.acc)
      have hat := HD.out.at_
      have hXl := HD.out.lt
      have y0 := cells_get hat 0
      have y1 := cells_get hat 1
      have y2 := cells_get hat 2
      have y3 := cells_get hat 3
      simp at y0 y1 y2 y3
      have HR7 := Lib.hid (Kp.res HK.out)
      have HBS := Lib.hid (Kp.base HK.out)
      have hres := HR7.out
      have r0 := cells_get hres 0
      have r1 := cells_get hres 1
      have r2 := cells_get hres 2
      have r3 := cells_get hres 3
      have f0 := cells_free hres 0
      have f1 := cells_free hres 1
      have f2 := cells_free hres 2
      have f3 := cells_free hres 3
      have hlS := lt_of_block hres
      have p0 := cells_set hres 0 (.int .i64 k)
      have p1 := cells_set p0 1 (.int .i64 st)
      have p2 := cells_set p1 2 (.slice (some ⟨g, 0, none⟩) na cg)
      have p3 := cells_set p2 3 (.slice an mn cn)
      simp at r0 r1 r2 r3 p3
      have g0 := cells_get p3 0
      have g1 := cells_get p3 1
      have g2 := cells_get p3 2
      have g3 := cells_get p3 3
      simp at g0 g1 g2 g3
      have HG := Lib.hid (And.intro g0 (And.intro g1 (And.intro g2 g3)))
      clear p0 p1 p2 p3 g0 g1 g2 g3 hres hat HD
      go_wp2_with fail
      obtain ⟨g0, g1, g2, g3⟩ := HG.out
      refine bodyPost_ret (v := .agg #[.int .i64 k, .int .i64 st, .slice (some ⟨g, 0, none⟩) na cg, .slice an mn cn]) (by simp [results, Tryd.results34, go_sem, g0, g1, g2, g3]) rfl ⟨.slice (some ⟨g, 0, none⟩) na cg, .slice an mn cn, rfl, ?_, ?_⟩
      · exact ((((HB7.out.setLow (a := ⟨w.heap.size, 0, none⟩) (Nat.lt_succ_self _) _).setLow (a := ⟨w.heap.size, 1, none⟩) (Nat.lt_succ_self _) _).setLow (a := ⟨w.heap.size, 2, none⟩) (Nat.lt_succ_self _) _).setLow (a := ⟨w.heap.size, 3, none⟩) (Nat.lt_succ_self _) _).mono (Nat.le_succ _)
      · exact ((((HBS.out.setCell (p := ⟨w.heap.size, 0, none⟩) (Nat.le_refl _) _).setCell (p := ⟨w.heap.size, 1, none⟩) (Nat.le_refl _) _).setCell (p := ⟨w.heap.size, 2, none⟩) (Nat.le_refl _) _).setCell (p := ⟨w.heap.size, 3, none⟩) (Nat.le_refl _) _)

set_option maxHeartbeats 8000000 in
theorem pairsEither (l m : L) (hl : l.Ok) (hm : m.Ok) (hk : l.k = m.k) (bp bq : Nat) (w : World) (B : Nat) (h : RelPtr w B bp (relOf l)) (h' : RelPtr w B bq (relOf m)) (hB : B ≤ w.heap.size) (hbp : bp < w.heap.size) (hbq : bq < w.heap.size) (hnm : l.acc.length * m.acc.length ≤ 1000) :
    Calls Tryd.prog 34 #[.pointer (some ⟨bp, 0, none⟩), .pointer (some ⟨bq, 0, none⟩), .int .i64 2] w fun e w' => ∃ va vn, e = .returned (.agg #[.int .i64 (pairL (fun a b => a || b) l m).k, .int .i64 (pairL (fun a b => a || b) l m).start, va, vn]) ∧ Built w' w.heap.size va vn (pairL (fun a b => a || b) l m).acc (relOf (pairL (fun a b => a || b) l m)).next ∧ Below w.heap.size w w' := by
  have hl0 : 0 < l.acc.length := Nat.lt_of_le_of_lt (Nat.zero_le _) hl.st
  have hm0 : 0 < m.acc.length := Nat.lt_of_le_of_lt (Nat.zero_le _) hm.st
  obtain ⟨hs1, hs2⟩ := sides hl0 hm0 hnm
  have HDF := Lib.hid (Differ.differ l m hl hm hk bp bq (w.alloc (.cells #[Value.int .i64 0, .int .i64 0, .slice none 0 0, .slice none 0 0] 27)) B (h.below ((Below.refl _ _).alloc (Nat.le_refl _) _) hB hbp) (h'.below ((Below.refl _ _).alloc (Nat.le_refl _) _) hB hbq) (by rw [size_alloc']; omega) (by rw [size_alloc']; omega) (by rw [size_alloc']; omega) hnm)
  rw [size_alloc'] at HDF
  have HF1 := Lib.hid (pair_bools dif l m)
  have HF2 := Lib.hid (pair_bools (fun a b => a || b) l m)
  have HFL := Lib.hid (pairL_len dif l m)
  have e1 : ((pairL dif l m).k : Int) = (pairL (fun a b => a || b) l m).k ∧ ((pairL dif l m).start : Int) = (pairL (fun a b => a || b) l m).start ∧ (relOf (pairL dif l m)).next = (relOf (pairL (fun a b => a || b) l m)).next := ⟨rfl, rfl, rfl⟩
  rw [← e1.1, ← e1.2.1, ← e1.2.2]
  clear e1
  obtain ⟨ba, oa, ca, bb, ob, cb, V, hba, hbb, hptr, hcell, -⟩ := laidP hl h hB hbp
  obtain ⟨bc, oc, cc, bd, od, cd, U, hbc, hbd, hptr', hcell', -⟩ := laidP hm h' hB hbq
  have HPB := Lib.hid (fun W hW => (hptr W hW).2.2.1)
  have HQB := Lib.hid (fun W hW => (hptr' W hW).2.2.1)
  have HC1 := Lib.hid (fun W hW p hp => (hcell W hW p hp).1)
  have HC2 := Lib.hid (fun W hW p hp => (hcell' W hW p hp).1)
  have HML := Lib.hid (fun (x y : Nat) (hx : x < l.acc.length) (hy : y < m.acc.length) => And.intro (mul_le_pair hx hy hnm) (pair_lt hx hy))
  obtain ⟨AD, hAD⟩ : ∃ x, x = (pairL dif l m).acc := ⟨_, rfl⟩
  obtain ⟨AT, hAT⟩ : ∃ x, x = (pairL (fun a b => a || b) l m).acc := ⟨_, rfl⟩
  obtain ⟨NX, hNX⟩ : ∃ x, x = (relOf (pairL dif l m)).next := ⟨_, rfl⟩
  obtain ⟨k, hkk⟩ : ∃ x : Int, x = ((pairL dif l m).k : Int) := ⟨_, rfl⟩
  obtain ⟨st, hst⟩ : ∃ x : Int, x = ((pairL dif l m).start : Int) := ⟨_, rfl⟩
  rw [← hAD, ← hNX, ← hkk, ← hst] at HDF
  rw [← hAD] at HF1 HFL
  rw [← hAT] at HF2
  rw [← hAT, ← hNX, ← hkk, ← hst]
  obtain ⟨n1, hn1⟩ : ∃ n, n = l.acc.length := ⟨_, rfl⟩
  obtain ⟨n2, hn2⟩ : ∃ n, n = m.acc.length := ⟨_, rfl⟩
  rw [← hn1] at hl0 hs1 HPB HC1
  rw [← hn2] at hm0 hs2 HQB HC2
  rw [← hn1, ← hn2] at hnm HML HF1 HF2 HFL
  obtain ⟨fa, hfa⟩ : ∃ f : Nat → Bool, f = fun p => l.acc.getD p false := ⟨_, rfl⟩
  obtain ⟨fb, hfb⟩ : ∃ f : Nat → Bool, f = fun p => m.acc.getD p false := ⟨_, rfl⟩
  have HC1 := Lib.hid (show ∀ W, Below w.heap.size w W → ∀ p, p < n1 → W.cell? ⟨ba, oa + p, none⟩ = some (.bool (fa p)) from by rw [hfa]; exact HC1.out)
  have HC2 := Lib.hid (show ∀ W, Below w.heap.size w W → ∀ p, p < n2 → W.cell? ⟨bc, oc + p, none⟩ = some (.bool (fb p)) from by rw [hfb]; exact HC2.out)
  obtain ⟨fD, hfD⟩ : ∃ f : Nat → Bool, f = fun x => dif (l.acc.getD (x / n2) false) (m.acc.getD (x % n2) false) := ⟨_, rfl⟩
  obtain ⟨fT, hfT⟩ : ∃ f : Nat → Bool, f = fun x => (fun a b => a || b) (l.acc.getD (x / n2) false) (m.acc.getD (x % n2) false) := ⟨_, rfl⟩
  rw [← hfD] at HF1
  rw [← hfT] at HF2
  have HFT := Lib.hid (show ∀ i j, j < n2 → fT (i * n2 + j) = (fun a b => a || b) (fa i) (fb j) from fun i j hj => by rw [hfT, hfa, hfb]; show (fun a b => a || b) _ _ = _; rw [pair_div hj, pair_mod hj])
  obtain ⟨nn, hnn⟩ : ∃ n, n = n1 * n2 := ⟨_, rfl⟩
  rw [← hnn] at HF1 HF2 HFL hnm
  have HNN := Lib.hid hnn
  have hnn0 : 0 < nn := by rw [hnn]; exact Nat.mul_pos hl0 hm0
  clear hAD hAT hNX hkk hst hn1 hn2 hfa hfb hfD hfT hnn hl hm hk h h' hB hptr hptr' hcell hcell'
  have hwp1 := hbp
  go_enter Tryd.func34, Tryd.ntmps34
  go_wp2_with fail
  refine HDF.out.mono ?_
  rintro e w1 ⟨va, vn, rfl, hbu, hb1⟩
  have hbu' := hbu
  obtain ⟨hacc, hrows⟩ := hbu'
  rw [HF1.out] at hacc
  obtain ⟨aa, na, cg, rfl, HNA⟩ := hacc.shape'
  have hna : na = nn := by rw [HNA.out, bvF_length]
  subst hna
  obtain ⟨g, rfl, -⟩ := hacc.addr (by rw [bvF_length]; exact hnn0)
  obtain ⟨items, -, hnx, -⟩ := hbu.rows
  obtain ⟨an, mn, cn, rfl, -⟩ := hnx.shape'
  have hk1 : Kp w w1 := hb1
  obtain ⟨X, hX⟩ : ∃ X, X = w1.heap.size := ⟨_, rfl⟩
  have HXS := Lib.hid (show w.heap.size + 1 ≤ X from by rw [hX]; exact Kp.size hk1)
  have HD0 := Lib.hid (show Fl (w1.alloc (.cells #[.int .i64 k, .int .i64 st, .slice (some ⟨g, 0, none⟩) na cg, .slice an mn cn] 27)) (w.heap.size + 1) X k st g na cg (.slice an mn cn) (fun x => if x < 0 * n2 + 0 then fT x else fD x) NX from by
    refine ⟨?_, ?_, by rw [hX]; exact heap_alloc_new _ _⟩
    · rw [Nat.zero_mul, bvF_congr (g := fD) (fun q hq => if_neg (Nat.not_lt_zero q))]; exact hacc.alloc _
    · have hr : Built w1 (w.heap.size + 1) (.slice none 0 0) (.slice an mn cn) [] NX := ⟨Lst.nil _ _ _, hrows⟩
      exact hr.below ((Below.refl _ _).alloc (Nat.le_refl _) _))
  have HK0 := Lib.hid (show Kp w (w1.alloc (.cells #[.int .i64 k, .int .i64 st, .slice (some ⟨g, 0, none⟩) na cg, .slice an mn cn] 27)) from Below.alloc hk1 (Kp.size hk1) _)
  have q2 := HQB.out _ (Kp.base hk1)
  have lq : bq < w1.heap.size := by have := Kp.size hk1; omega
  clear hbu hb1 hacc hrows hnx hk1 HDF
  go_wp2_with fail
  rw [← hX]
  clear hX q2 lq
  go_loopw [9, 10, 11, 12] (fun s9 _ _ _ wr => ∃ i : Nat, i ≤ n1 ∧ s9 = .int .i64 i ∧ Fl wr (w.heap.size + 1) X k st g na cg (.slice an mn cn) (fun x => if x < i * n2 + 0 then fT x else fD x) NX ∧ Kp w wr) (fun s9 _ _ _ _ => n1 - (intOf s9).toNat)
  case atStart => exact ⟨0, Nat.zero_le _, rfl, HD0.out, HK0.out⟩
  case round =>
    obtain ⟨i, hi, rfl, hd, hk⟩ := hrel
    have HD := Lib.hid hd
    have HK := Lib.hid hk
    have q1 := HPB.out _ (Kp.base hk)
    have lp : bp < wr.heap.size := by have := Kp.size hk; omega
    clear hd hk HD0 HK0
    by_cases hlt : i < n1
    · go_wp2_with fail
      go_loopw [10, 11, 12] (fun s10 _ _ wr2 => ∃ j : Nat, j ≤ n2 ∧ s10 = .int .i64 j ∧ Fl wr2 (w.heap.size + 1) X k st g na cg (.slice an mn cn) (fun x => if x < i * n2 + j then fT x else fD x) NX ∧ Kp w wr2) (fun s10 _ _ _ => n2 - (intOf s10).toNat)
      case atStart => exact ⟨0, Nat.zero_le _, rfl, HD.out, HK.out⟩
      case round =>
        obtain ⟨j, hj, rfl, hd, hk⟩ := hrel
        have HD2 := Lib.hid hd
        have HK2 := Lib.hid hk
        clear hd HD HK q1 lp
        by_cases hlj : j < n2
        · have ea := HC1.out _ (Kp.base hk) i hlt
          have eb := HC2.out _ (Kp.base hk) j hlj
          have q1 := HPB.out _ (Kp.base hk)
          have q2 := HQB.out _ (Kp.base hk)
          have lp : bp < wr.heap.size := by have := Kp.size hk; omega
          have lq : bq < wr.heap.size := by have := Kp.size hk; omega
          have la : ba < wr.heap.size := by have := Kp.size hk; omega
          have lb : bc < wr.heap.size := by have := Kp.size hk; omega
          obtain ⟨⟨hP1, hP2⟩, hP3⟩ := HML.out i j hlt hlj
          rw [← HNN.out] at hP3
          have HTV := Lib.hid (HFT.out i j hlj)
          obtain ⟨a, ha⟩ : ∃ a, a = fa i := ⟨_, rfl⟩
          obtain ⟨b, hb⟩ : ∃ b, b = fb j := ⟨_, rfl⟩
          rw [← ha, ← hb] at HTV
          rw [← ha] at ea
          rw [← hb] at eb
          obtain ⟨P, hP⟩ : ∃ P, P = i * n2 := ⟨_, rfl⟩
          have hmul : (i : Int) * (n2 : Int) = (P : Int) := by rw [hP]; exact (Int.natCast_mul i n2).symm
          have HPE := Lib.hid hP
          rw [← hP] at hP1 hP2 hP3
          obtain ⟨y, hy⟩ : ∃ y, y = P + j := ⟨_, rfl⟩
          have hsum : (P : Int) + (j : Int) = (y : Int) := by rw [hy]; exact (Int.natCast_add P j).symm
          rw [← hy] at hP2 hP3
          have HYE := Lib.hid (show y = i * n2 + j from by rw [hy, hP])
          have hwP : IntKind.i64.wrap (P : Int) = (P : Int) := by rw [IntKind.wrap_i64]; omega
          have hwy : IntKind.i64.wrap (y : Int) = (y : Int) := by rw [IntKind.wrap_i64]; omega
          have hy0 : (0 : Int) ≤ (y : Int) := Int.natCast_nonneg _
          have hy1 : (y : Int) < (na : Int) := by omega
          have hat := HD2.out.at_
          have x2 := cells_get hat 2
          simp at x2
          have hXl := HD2.out.lt
          have hgX := HD2.out.ne
          have c9 := HD2.out.acc.cellOf (i := y) (by rw [bvF_length]; exact hP3)
          have f9 := HD2.out.acc.free y
          have hgl := HD2.out.acc.lt (k := g) rfl
          have c9' : wr.cell? ⟨g, y, none⟩ = some (.bool (fD y)) := by rw [c9]; simp [bvF, HYE.out]
          obtain ⟨z, hz⟩ : ∃ z, z = fD y := ⟨_, rfl⟩
          rw [← hz] at c9'
          clear c9 ha hb hP hy hz hk hat
          have HTV := Lib.hid (show fT y = (a || b) from by rw [HYE.out]; exact HTV.out)
          have HSET := Lib.hid (show ∀ W, Fl W (w.heap.size + 1) X k st g na cg (.slice an mn cn) (fun x => if x < i * n2 + j then fT x else fD x) NX → Fl (W.setCell ⟨g, y, none⟩ (.bool (a || b))) (w.heap.size + 1) X k st g na cg (.slice an mn cn) (fun x => if x < i * n2 + (j + 1) then fT x else fD x) NX from fun W hW => by
            refine (hW.set (i := y) hP3 (a || b)).congr fun q hq => ?_
            by_cases e : q = y
            · subst e
              rw [if_pos rfl, if_pos (by have := HYE.out; omega), HTV.out]
            · have : (q < i * n2 + (j + 1)) = (q < i * n2 + j) := by apply propext; have := HYE.out; constructor <;> intro h <;> omega
              simp only [if_neg e, this])
          have HKS := Lib.hid (show ∀ W, Kp w W → ∀ u, Kp w (W.setCell ⟨g, y, none⟩ u) from fun W hW u => hW.setCell (p := ⟨g, y, none⟩) (HD2.out.acc.ge (k := g) rfl) u)
          cases a <;> cases b
          all_goals
            go_wp2_with fail
            go_roundw
            case rel => exact ⟨j + 1, hlj, by go_num, HSET.out _ HD2.out, HKS.out _ HK2.out _⟩
            case measure => simp [intOf]; omega
        · obtain rfl : j = n2 := by omega
          have HNEXT := Lib.hid (show (i + 1) * j + 0 = i * j + j from Nat.succ_mul i j)
          clear hk
          go_wp2_with fail
          go_roundw
          case rel => exact ⟨i + 1, hlt, by go_num, by rw [HNEXT.out]; exact HD2.out, HK2.out⟩
          case measure => simp [intOf]; omega
    · obtain rfl : i = n1 := by omega
      have HB7 := Lib.hid (show Built wr (w.heap.size + 1) (.slice (some ⟨g, 0, none⟩) na cg) (.slice an mn cn) AT NX from by
        refine ⟨?_, HD.out.rows.rows⟩
        rw [HF2.out, bvF_congr (g := fun x => if x < i * n2 + 0 then fT x else fD x) (fun q hq => (if_pos (by have := HNN.out; omega)).symm)]
        exact HD.out.acc)
      have hat := HD.out.at_
      have hXl := HD.out.lt
      have y0 := cells_get hat 0
      have y1 := cells_get hat 1
      have y2 := cells_get hat 2
      have y3 := cells_get hat 3
      simp at y0 y1 y2 y3
      have HR7 := Lib.hid (Kp.res HK.out)
      have HBS := Lib.hid (Kp.base HK.out)
      have hres := HR7.out
      have r0 := cells_get hres 0
      have r1 := cells_get hres 1
      have r2 := cells_get hres 2
      have r3 := cells_get hres 3
      have f0 := cells_free hres 0
      have f1 := cells_free hres 1
      have f2 := cells_free hres 2
      have f3 := cells_free hres 3
      have hlS := lt_of_block hres
      have p0 := cells_set hres 0 (.int .i64 k)
      have p1 := cells_set p0 1 (.int .i64 st)
      have p2 := cells_set p1 2 (.slice (some ⟨g, 0, none⟩) na cg)
      have p3 := cells_set p2 3 (.slice an mn cn)
      simp at r0 r1 r2 r3 p3
      have g0 := cells_get p3 0
      have g1 := cells_get p3 1
      have g2 := cells_get p3 2
      have g3 := cells_get p3 3
      simp at g0 g1 g2 g3
      have HG := Lib.hid (And.intro g0 (And.intro g1 (And.intro g2 g3)))
      clear p0 p1 p2 p3 g0 g1 g2 g3 hres hat HD
      go_wp2_with fail
      obtain ⟨g0, g1, g2, g3⟩ := HG.out
      refine bodyPost_ret (v := .agg #[.int .i64 k, .int .i64 st, .slice (some ⟨g, 0, none⟩) na cg, .slice an mn cn]) (by simp [results, Tryd.results34, go_sem, g0, g1, g2, g3]) rfl ⟨.slice (some ⟨g, 0, none⟩) na cg, .slice an mn cn, rfl, ?_, ?_⟩
      · exact ((((HB7.out.setLow (a := ⟨w.heap.size, 0, none⟩) (Nat.lt_succ_self _) _).setLow (a := ⟨w.heap.size, 1, none⟩) (Nat.lt_succ_self _) _).setLow (a := ⟨w.heap.size, 2, none⟩) (Nat.lt_succ_self _) _).setLow (a := ⟨w.heap.size, 3, none⟩) (Nat.lt_succ_self _) _).mono (Nat.le_succ _)
      · exact ((((HBS.out.setCell (p := ⟨w.heap.size, 0, none⟩) (Nat.le_refl _) _).setCell (p := ⟨w.heap.size, 1, none⟩) (Nat.le_refl _) _).setCell (p := ⟨w.heap.size, 2, none⟩) (Nat.le_refl _) _).setCell (p := ⟨w.heap.size, 3, none⟩) (Nat.le_refl _) _)

set_option maxHeartbeats 8000000 in
theorem pairsWithout (l m : L) (hl : l.Ok) (hm : m.Ok) (hk : l.k = m.k) (bp bq : Nat) (w : World) (B : Nat) (h : RelPtr w B bp (relOf l)) (h' : RelPtr w B bq (relOf m)) (hB : B ≤ w.heap.size) (hbp : bp < w.heap.size) (hbq : bq < w.heap.size) (hnm : l.acc.length * m.acc.length ≤ 1000) :
    Calls Tryd.prog 34 #[.pointer (some ⟨bp, 0, none⟩), .pointer (some ⟨bq, 0, none⟩), .int .i64 3] w fun e w' => ∃ va vn, e = .returned (.agg #[.int .i64 (pairL (fun a b => a && !b) l m).k, .int .i64 (pairL (fun a b => a && !b) l m).start, va, vn]) ∧ Built w' w.heap.size va vn (pairL (fun a b => a && !b) l m).acc (relOf (pairL (fun a b => a && !b) l m)).next ∧ Below w.heap.size w w' := by
  have hl0 : 0 < l.acc.length := Nat.lt_of_le_of_lt (Nat.zero_le _) hl.st
  have hm0 : 0 < m.acc.length := Nat.lt_of_le_of_lt (Nat.zero_le _) hm.st
  obtain ⟨hs1, hs2⟩ := sides hl0 hm0 hnm
  have HDF := Lib.hid (Differ.differ l m hl hm hk bp bq (w.alloc (.cells #[Value.int .i64 0, .int .i64 0, .slice none 0 0, .slice none 0 0] 27)) B (h.below ((Below.refl _ _).alloc (Nat.le_refl _) _) hB hbp) (h'.below ((Below.refl _ _).alloc (Nat.le_refl _) _) hB hbq) (by rw [size_alloc']; omega) (by rw [size_alloc']; omega) (by rw [size_alloc']; omega) hnm)
  rw [size_alloc'] at HDF
  have HF1 := Lib.hid (pair_bools dif l m)
  have HF2 := Lib.hid (pair_bools (fun a b => a && !b) l m)
  have HFL := Lib.hid (pairL_len dif l m)
  have e1 : ((pairL dif l m).k : Int) = (pairL (fun a b => a && !b) l m).k ∧ ((pairL dif l m).start : Int) = (pairL (fun a b => a && !b) l m).start ∧ (relOf (pairL dif l m)).next = (relOf (pairL (fun a b => a && !b) l m)).next := ⟨rfl, rfl, rfl⟩
  rw [← e1.1, ← e1.2.1, ← e1.2.2]
  clear e1
  obtain ⟨ba, oa, ca, bb, ob, cb, V, hba, hbb, hptr, hcell, -⟩ := laidP hl h hB hbp
  obtain ⟨bc, oc, cc, bd, od, cd, U, hbc, hbd, hptr', hcell', -⟩ := laidP hm h' hB hbq
  have HPB := Lib.hid (fun W hW => (hptr W hW).2.2.1)
  have HQB := Lib.hid (fun W hW => (hptr' W hW).2.2.1)
  have HC1 := Lib.hid (fun W hW p hp => (hcell W hW p hp).1)
  have HC2 := Lib.hid (fun W hW p hp => (hcell' W hW p hp).1)
  have HML := Lib.hid (fun (x y : Nat) (hx : x < l.acc.length) (hy : y < m.acc.length) => And.intro (mul_le_pair hx hy hnm) (pair_lt hx hy))
  obtain ⟨AD, hAD⟩ : ∃ x, x = (pairL dif l m).acc := ⟨_, rfl⟩
  obtain ⟨AT, hAT⟩ : ∃ x, x = (pairL (fun a b => a && !b) l m).acc := ⟨_, rfl⟩
  obtain ⟨NX, hNX⟩ : ∃ x, x = (relOf (pairL dif l m)).next := ⟨_, rfl⟩
  obtain ⟨k, hkk⟩ : ∃ x : Int, x = ((pairL dif l m).k : Int) := ⟨_, rfl⟩
  obtain ⟨st, hst⟩ : ∃ x : Int, x = ((pairL dif l m).start : Int) := ⟨_, rfl⟩
  rw [← hAD, ← hNX, ← hkk, ← hst] at HDF
  rw [← hAD] at HF1 HFL
  rw [← hAT] at HF2
  rw [← hAT, ← hNX, ← hkk, ← hst]
  obtain ⟨n1, hn1⟩ : ∃ n, n = l.acc.length := ⟨_, rfl⟩
  obtain ⟨n2, hn2⟩ : ∃ n, n = m.acc.length := ⟨_, rfl⟩
  rw [← hn1] at hl0 hs1 HPB HC1
  rw [← hn2] at hm0 hs2 HQB HC2
  rw [← hn1, ← hn2] at hnm HML HF1 HF2 HFL
  obtain ⟨fa, hfa⟩ : ∃ f : Nat → Bool, f = fun p => l.acc.getD p false := ⟨_, rfl⟩
  obtain ⟨fb, hfb⟩ : ∃ f : Nat → Bool, f = fun p => m.acc.getD p false := ⟨_, rfl⟩
  have HC1 := Lib.hid (show ∀ W, Below w.heap.size w W → ∀ p, p < n1 → W.cell? ⟨ba, oa + p, none⟩ = some (.bool (fa p)) from by rw [hfa]; exact HC1.out)
  have HC2 := Lib.hid (show ∀ W, Below w.heap.size w W → ∀ p, p < n2 → W.cell? ⟨bc, oc + p, none⟩ = some (.bool (fb p)) from by rw [hfb]; exact HC2.out)
  obtain ⟨fD, hfD⟩ : ∃ f : Nat → Bool, f = fun x => dif (l.acc.getD (x / n2) false) (m.acc.getD (x % n2) false) := ⟨_, rfl⟩
  obtain ⟨fT, hfT⟩ : ∃ f : Nat → Bool, f = fun x => (fun a b => a && !b) (l.acc.getD (x / n2) false) (m.acc.getD (x % n2) false) := ⟨_, rfl⟩
  rw [← hfD] at HF1
  rw [← hfT] at HF2
  have HFT := Lib.hid (show ∀ i j, j < n2 → fT (i * n2 + j) = (fun a b => a && !b) (fa i) (fb j) from fun i j hj => by rw [hfT, hfa, hfb]; show (fun a b => a && !b) _ _ = _; rw [pair_div hj, pair_mod hj])
  obtain ⟨nn, hnn⟩ : ∃ n, n = n1 * n2 := ⟨_, rfl⟩
  rw [← hnn] at HF1 HF2 HFL hnm
  have HNN := Lib.hid hnn
  have hnn0 : 0 < nn := by rw [hnn]; exact Nat.mul_pos hl0 hm0
  clear hAD hAT hNX hkk hst hn1 hn2 hfa hfb hfD hfT hnn hl hm hk h h' hB hptr hptr' hcell hcell'
  have hwp1 := hbp
  go_enter Tryd.func34, Tryd.ntmps34
  go_wp2_with fail
  refine HDF.out.mono ?_
  rintro e w1 ⟨va, vn, rfl, hbu, hb1⟩
  have hbu' := hbu
  obtain ⟨hacc, hrows⟩ := hbu'
  rw [HF1.out] at hacc
  obtain ⟨aa, na, cg, rfl, HNA⟩ := hacc.shape'
  have hna : na = nn := by rw [HNA.out, bvF_length]
  subst hna
  obtain ⟨g, rfl, -⟩ := hacc.addr (by rw [bvF_length]; exact hnn0)
  obtain ⟨items, -, hnx, -⟩ := hbu.rows
  obtain ⟨an, mn, cn, rfl, -⟩ := hnx.shape'
  have hk1 : Kp w w1 := hb1
  obtain ⟨X, hX⟩ : ∃ X, X = w1.heap.size := ⟨_, rfl⟩
  have HXS := Lib.hid (show w.heap.size + 1 ≤ X from by rw [hX]; exact Kp.size hk1)
  have HD0 := Lib.hid (show Fl (w1.alloc (.cells #[.int .i64 k, .int .i64 st, .slice (some ⟨g, 0, none⟩) na cg, .slice an mn cn] 27)) (w.heap.size + 1) X k st g na cg (.slice an mn cn) (fun x => if x < 0 * n2 + 0 then fT x else fD x) NX from by
    refine ⟨?_, ?_, by rw [hX]; exact heap_alloc_new _ _⟩
    · rw [Nat.zero_mul, bvF_congr (g := fD) (fun q hq => if_neg (Nat.not_lt_zero q))]; exact hacc.alloc _
    · have hr : Built w1 (w.heap.size + 1) (.slice none 0 0) (.slice an mn cn) [] NX := ⟨Lst.nil _ _ _, hrows⟩
      exact hr.below ((Below.refl _ _).alloc (Nat.le_refl _) _))
  have HK0 := Lib.hid (show Kp w (w1.alloc (.cells #[.int .i64 k, .int .i64 st, .slice (some ⟨g, 0, none⟩) na cg, .slice an mn cn] 27)) from Below.alloc hk1 (Kp.size hk1) _)
  have q2 := HQB.out _ (Kp.base hk1)
  have lq : bq < w1.heap.size := by have := Kp.size hk1; omega
  clear hbu hb1 hacc hrows hnx hk1 HDF
  go_wp2_with fail
  rw [← hX]
  clear hX q2 lq
  go_loopw [9, 10, 11, 12] (fun s9 _ _ _ wr => ∃ i : Nat, i ≤ n1 ∧ s9 = .int .i64 i ∧ Fl wr (w.heap.size + 1) X k st g na cg (.slice an mn cn) (fun x => if x < i * n2 + 0 then fT x else fD x) NX ∧ Kp w wr) (fun s9 _ _ _ _ => n1 - (intOf s9).toNat)
  case atStart => exact ⟨0, Nat.zero_le _, rfl, HD0.out, HK0.out⟩
  case round =>
    obtain ⟨i, hi, rfl, hd, hk⟩ := hrel
    have HD := Lib.hid hd
    have HK := Lib.hid hk
    have q1 := HPB.out _ (Kp.base hk)
    have lp : bp < wr.heap.size := by have := Kp.size hk; omega
    clear hd hk HD0 HK0
    by_cases hlt : i < n1
    · go_wp2_with fail
      go_loopw [10, 11, 12] (fun s10 _ _ wr2 => ∃ j : Nat, j ≤ n2 ∧ s10 = .int .i64 j ∧ Fl wr2 (w.heap.size + 1) X k st g na cg (.slice an mn cn) (fun x => if x < i * n2 + j then fT x else fD x) NX ∧ Kp w wr2) (fun s10 _ _ _ => n2 - (intOf s10).toNat)
      case atStart => exact ⟨0, Nat.zero_le _, rfl, HD.out, HK.out⟩
      case round =>
        obtain ⟨j, hj, rfl, hd, hk⟩ := hrel
        have HD2 := Lib.hid hd
        have HK2 := Lib.hid hk
        clear hd HD HK q1 lp
        by_cases hlj : j < n2
        · have ea := HC1.out _ (Kp.base hk) i hlt
          have eb := HC2.out _ (Kp.base hk) j hlj
          have q1 := HPB.out _ (Kp.base hk)
          have q2 := HQB.out _ (Kp.base hk)
          have lp : bp < wr.heap.size := by have := Kp.size hk; omega
          have lq : bq < wr.heap.size := by have := Kp.size hk; omega
          have la : ba < wr.heap.size := by have := Kp.size hk; omega
          have lb : bc < wr.heap.size := by have := Kp.size hk; omega
          obtain ⟨⟨hP1, hP2⟩, hP3⟩ := HML.out i j hlt hlj
          rw [← HNN.out] at hP3
          have HTV := Lib.hid (HFT.out i j hlj)
          obtain ⟨a, ha⟩ : ∃ a, a = fa i := ⟨_, rfl⟩
          obtain ⟨b, hb⟩ : ∃ b, b = fb j := ⟨_, rfl⟩
          rw [← ha, ← hb] at HTV
          rw [← ha] at ea
          rw [← hb] at eb
          obtain ⟨P, hP⟩ : ∃ P, P = i * n2 := ⟨_, rfl⟩
          have hmul : (i : Int) * (n2 : Int) = (P : Int) := by rw [hP]; exact (Int.natCast_mul i n2).symm
          have HPE := Lib.hid hP
          rw [← hP] at hP1 hP2 hP3
          obtain ⟨y, hy⟩ : ∃ y, y = P + j := ⟨_, rfl⟩
          have hsum : (P : Int) + (j : Int) = (y : Int) := by rw [hy]; exact (Int.natCast_add P j).symm
          rw [← hy] at hP2 hP3
          have HYE := Lib.hid (show y = i * n2 + j from by rw [hy, hP])
          have hwP : IntKind.i64.wrap (P : Int) = (P : Int) := by rw [IntKind.wrap_i64]; omega
          have hwy : IntKind.i64.wrap (y : Int) = (y : Int) := by rw [IntKind.wrap_i64]; omega
          have hy0 : (0 : Int) ≤ (y : Int) := Int.natCast_nonneg _
          have hy1 : (y : Int) < (na : Int) := by omega
          have hat := HD2.out.at_
          have x2 := cells_get hat 2
          simp at x2
          have hXl := HD2.out.lt
          have hgX := HD2.out.ne
          have c9 := HD2.out.acc.cellOf (i := y) (by rw [bvF_length]; exact hP3)
          have f9 := HD2.out.acc.free y
          have hgl := HD2.out.acc.lt (k := g) rfl
          have c9' : wr.cell? ⟨g, y, none⟩ = some (.bool (fD y)) := by rw [c9]; simp [bvF, HYE.out]
          obtain ⟨z, hz⟩ : ∃ z, z = fD y := ⟨_, rfl⟩
          rw [← hz] at c9'
          clear c9 ha hb hP hy hz hk hat
          have HTV := Lib.hid (show fT y = (a && !b) from by rw [HYE.out]; exact HTV.out)
          have HSET := Lib.hid (show ∀ W, Fl W (w.heap.size + 1) X k st g na cg (.slice an mn cn) (fun x => if x < i * n2 + j then fT x else fD x) NX → Fl (W.setCell ⟨g, y, none⟩ (.bool (a && !b))) (w.heap.size + 1) X k st g na cg (.slice an mn cn) (fun x => if x < i * n2 + (j + 1) then fT x else fD x) NX from fun W hW => by
            refine (hW.set (i := y) hP3 (a && !b)).congr fun q hq => ?_
            by_cases e : q = y
            · subst e
              rw [if_pos rfl, if_pos (by have := HYE.out; omega), HTV.out]
            · have : (q < i * n2 + (j + 1)) = (q < i * n2 + j) := by apply propext; have := HYE.out; constructor <;> intro h <;> omega
              simp only [if_neg e, this])
          have HKS := Lib.hid (show ∀ W, Kp w W → ∀ u, Kp w (W.setCell ⟨g, y, none⟩ u) from fun W hW u => hW.setCell (p := ⟨g, y, none⟩) (HD2.out.acc.ge (k := g) rfl) u)
          cases a <;> cases b
          all_goals
            go_wp2_with fail
            go_roundw
            case rel => exact ⟨j + 1, hlj, by go_num, HSET.out _ HD2.out, HKS.out _ HK2.out _⟩
            case measure => simp [intOf]; omega
        · obtain rfl : j = n2 := by omega
          have HNEXT := Lib.hid (show (i + 1) * j + 0 = i * j + j from Nat.succ_mul i j)
          clear hk
          go_wp2_with fail
          go_roundw
          case rel => exact ⟨i + 1, hlt, by go_num, by rw [HNEXT.out]; exact HD2.out, HK2.out⟩
          case measure => simp [intOf]; omega
    · obtain rfl : i = n1 := by omega
      have HB7 := Lib.hid (show Built wr (w.heap.size + 1) (.slice (some ⟨g, 0, none⟩) na cg) (.slice an mn cn) AT NX from by
        refine ⟨?_, HD.out.rows.rows⟩
        rw [HF2.out, bvF_congr (g := fun x => if x < i * n2 + 0 then fT x else fD x) (fun q hq => (if_pos (by have := HNN.out; omega)).symm)]
        exact HD.out.acc)
      have hat := HD.out.at_
      have hXl := HD.out.lt
      have y0 := cells_get hat 0
      have y1 := cells_get hat 1
      have y2 := cells_get hat 2
      have y3 := cells_get hat 3
      simp at y0 y1 y2 y3
      have HR7 := Lib.hid (Kp.res HK.out)
      have HBS := Lib.hid (Kp.base HK.out)
      have hres := HR7.out
      have r0 := cells_get hres 0
      have r1 := cells_get hres 1
      have r2 := cells_get hres 2
      have r3 := cells_get hres 3
      have f0 := cells_free hres 0
      have f1 := cells_free hres 1
      have f2 := cells_free hres 2
      have f3 := cells_free hres 3
      have hlS := lt_of_block hres
      have p0 := cells_set hres 0 (.int .i64 k)
      have p1 := cells_set p0 1 (.int .i64 st)
      have p2 := cells_set p1 2 (.slice (some ⟨g, 0, none⟩) na cg)
      have p3 := cells_set p2 3 (.slice an mn cn)
      simp at r0 r1 r2 r3 p3
      have g0 := cells_get p3 0
      have g1 := cells_get p3 1
      have g2 := cells_get p3 2
      have g3 := cells_get p3 3
      simp at g0 g1 g2 g3
      have HG := Lib.hid (And.intro g0 (And.intro g1 (And.intro g2 g3)))
      clear p0 p1 p2 p3 g0 g1 g2 g3 hres hat HD
      go_wp2_with fail
      obtain ⟨g0, g1, g2, g3⟩ := HG.out
      refine bodyPost_ret (v := .agg #[.int .i64 k, .int .i64 st, .slice (some ⟨g, 0, none⟩) na cg, .slice an mn cn]) (by simp [results, Tryd.results34, go_sem, g0, g1, g2, g3]) rfl ⟨.slice (some ⟨g, 0, none⟩) na cg, .slice an mn cn, rfl, ?_, ?_⟩
      · exact ((((HB7.out.setLow (a := ⟨w.heap.size, 0, none⟩) (Nat.lt_succ_self _) _).setLow (a := ⟨w.heap.size, 1, none⟩) (Nat.lt_succ_self _) _).setLow (a := ⟨w.heap.size, 2, none⟩) (Nat.lt_succ_self _) _).setLow (a := ⟨w.heap.size, 3, none⟩) (Nat.lt_succ_self _) _).mono (Nat.le_succ _)
      · exact ((((HBS.out.setCell (p := ⟨w.heap.size, 0, none⟩) (Nat.le_refl _) _).setCell (p := ⟨w.heap.size, 1, none⟩) (Nat.le_refl _) _).setCell (p := ⟨w.heap.size, 2, none⟩) (Nat.le_refl _) _).setCell (p := ⟨w.heap.size, 3, none⟩) (Nat.le_refl _) _)
end Go.Proofs.YtaimealknkhfbaaDoor.PairS
/- What the model's BothRelations, EitherRelation and WithoutRelation answer: a relation in memory of its own, and a code.
   Conditions: the relations are read as XRel's text says. -/
namespace Go.Proofs.YtaimealknkhfbaaDoor.TwoSpec
set_option linter.unusedVariables false
set_option linter.unusedSimpArgs false
set_option maxRecDepth 100000
open Go.RowKit Mem Copy Rel Valid Heap Columns Bld TidyMath TidyAuto TidyRight SpecFiner SpecRight SpecTidied SpecTold ToL SpecTidyRel ImplTidied PairMath PairsI JoinI TwoImpl ResKit

/-- A built relation in a block is a relation behind a pointer. -/
theorem built_ptr {W : World} {B X : Nat} {k st : Int} {va vn : Value} {A : List Bool} {N : List (List Int)} (hb : Built W B va vn A N) (hat : W.heap[X]? = some (.cells #[.int .i64 k, .int .i64 st, va, vn] 27 (0, 0))) : RelPtr W W.heap.size X ⟨k, st, A, N⟩ := by
  obtain ⟨va', vn', ev, hva, hvn⟩ := hb.reads W.heap.size (Nat.le_refl _) 0 0
  simp at ev
  obtain ⟨rfl, rfl⟩ := ev
  have y0 := cells_get hat 0
  have y1 := cells_get hat 1
  have y2 := cells_get hat 2
  have y3 := cells_get hat 3
  simp at y0 y1 y2 y3
  exact ⟨_, _, y0, y1, y2, y3, hva, hvn⟩

/-- What is told of a tidy relation. -/
theorem toldI (L : L) (k : Int) (aa ab : Option Addr) (n ca nb cb : Nat) (w : World) (B : Nat) (hk : k = L.k) (hn : n = (tidyAcc L).length) (hm : n ≤ 1000000) (hbu : Built w B (.slice aa n ca) (.slice ab nb cb) (tidyAcc L) (tidyNext L)) :
    Calls Tryd.prog 35 #[.agg #[.int .i64 k, .int .i64 0, .slice aa n ca, .slice ab nb cb]] w fun e w' => ∃ va vn, e = .returned (.tuple #[.agg #[.int .i64 (fewK L 150), .int .i64 0, va, vn], .int .i64 (if fewB L 150 = true then 0 else 3)]) ∧ Built w' B va vn (fewA L 150) (fewN L 150) ∧ Below w.heap.size w w' := by
  by_cases hf : n ≤ 150
  · have hb : fewB L 150 = true := by unfold fewB; rw [← hn]; exact decide_eq_true hf
    have e1 : fewK L 150 = k := by unfold fewK; rw [if_pos hb, hk]
    have e2 : fewA L 150 = tidyAcc L := by unfold fewA; rw [if_pos hb]
    have e3 : fewN L 150 = tidyNext L := by unfold fewN; rw [if_pos hb]
    rw [e1, e2, e3, hb]
    exact (told_few k aa ab n ca nb cb w hf).mono fun e w' ⟨he, hw⟩ => ⟨_, _, he, hbu.below hw, hw⟩
  · have hb : fewB L 150 = false := by unfold fewB; rw [← hn]; exact decide_eq_false hf
    have e1 : fewK L 150 = 0 := by unfold fewK; rw [hb]; rfl
    have e2 : fewA L 150 = [] := by unfold fewA; rw [hb]; rfl
    have e3 : fewN L 150 = [] := by unfold fewN; rw [hb]; rfl
    rw [e1, e2, e3, hb]
    exact (told_many k aa ab n ca nb cb w (by omega) hm).mono fun e w' ⟨he, hw⟩ => ⟨_, _, he, ImplTidied.built_none _ _, hw⟩

/-- What the walk over pairs is asked to hand back, for a way. -/
def PairsC (t : Bool → Bool → Bool) (way : Int) : Prop := ∀ (l m : L), l.Ok → m.Ok → l.k = m.k → ∀ (bp bq : Nat) (w : World) (B : Nat), RelPtr w B bp (relOf l) → RelPtr w B bq (relOf m) → B ≤ w.heap.size → bp < w.heap.size → bq < w.heap.size → l.acc.length * m.acc.length ≤ 1000 →
  Calls Tryd.prog 34 #[.pointer (some ⟨bp, 0, none⟩), .pointer (some ⟨bq, 0, none⟩), .int .i64 way] w fun e w' => ∃ va vn, e = .returned (.agg #[.int .i64 (pairL t l m).k, .int .i64 (pairL t l m).start, va, vn]) ∧ Built w' w.heap.size va vn (pairL t l m).acc (relOf (pairL t l m)).next ∧ Below w.heap.size w w'

set_option maxHeartbeats 16000000 in
theorem joinedS (t : Bool → Bool → Bool) (way : Int) (hP : PairsC t way) (l m : L) (hl : l.Ok) (hm : m.Ok) (hk : l.k = m.k) (hnl : l.acc.length ≤ 150) (hnm : m.acc.length ≤ 150) (bp bq : Nat) (w : World) (B : Nat) (h : RelPtr w B bp (relOf l)) (h' : RelPtr w B bq (relOf m)) (hB : B ≤ w.heap.size) (hbp : bp < w.heap.size) (hbq : bq < w.heap.size) :
    Calls Tryd.prog 16 #[.pointer (some ⟨bp, 0, none⟩), .pointer (some ⟨bq, 0, none⟩), .int .i64 way] w fun e w' => ∃ va vn, e = .returned (.tuple #[.agg #[.int .i64 (joinK t l m), .int .i64 0, va, vn], .int .i64 (if joinB t l m = true then 0 else 3)]) ∧ Built w' w.heap.size va vn (joinA t l m) (joinN t l m) ∧ Below w.heap.size w w' := by
  have HT1 := Lib.hid (tidied l hl bp (w.alloc (.cells #[Value.int .i64 0, .int .i64 0, .slice none 0 0, .slice none 0 0] 27)) B (h.below ((Below.refl _ _).alloc (Nat.le_refl _) _) hB hbp) (by rw [size_alloc']; omega) (by rw [size_alloc']; omega) (by omega))
  have HT2 := Lib.hid (fun W (hb : Below w.heap.size w W) => tidied m hm bq W B (h'.below hb hB hbq) (Nat.le_trans hB hb.size) (Nat.lt_of_lt_of_le hbq hb.size) (by omega))
  have hj1 := pairL_ok t (tidL_ok hl) (tidL_ok hm) hk
  have HP1 := Lib.hid (fun W X Y (h1 : RelPtr W W.heap.size X ⟨l.k, 0, tidyAcc l, tidyNext l⟩) (h2 : RelPtr W W.heap.size Y ⟨m.k, 0, tidyAcc m, tidyNext m⟩) (hX : X < W.heap.size) (hY : Y < W.heap.size) (hle : (tidyAcc l).length * (tidyAcc m).length ≤ 1000) => hP (tidL l) (tidL m) (tidL_ok hl) (tidL_ok hm) hk X Y W W.heap.size (by rw [tidL_rel]; exact h1) (by rw [tidL_rel]; exact h2) (Nat.le_refl _) hX hY hle)
  have hjlen : (joinL t l m).acc.length = (tidyAcc l).length * (tidyAcc m).length := pairL_len t (tidL l) (tidL m)
  have HT3 := Lib.hid (fun (hle : (tidyAcc l).length * (tidyAcc m).length ≤ 1000) W X (h1 : RelPtr W W.heap.size X (relOf (joinL t l m))) (hX : X < W.heap.size) => tidied (joinL t l m) hj1 X W W.heap.size h1 (Nat.le_refl _) hX (by omega))
  have HTO := Lib.hid (fun (hle : (tidyAcc l).length * (tidyAcc m).length ≤ 1000) k aa ab n ca nb cb W C (hk : k = ((joinL t l m).k : Int)) (hn : n = (tidyAcc (joinL t l m)).length) (hbu : Built W C (.slice aa n ca) (.slice ab nb cb) (tidyAcc (joinL t l m)) (tidyNext (joinL t l m))) => show Calls Tryd.prog 35 #[.agg #[.int .i64 k, .int .i64 0, .slice aa n ca, .slice ab nb cb]] W fun e w' => ∃ va vn, e = .returned (.tuple #[.agg #[.int .i64 (joinK t l m), .int .i64 0, va, vn], .int .i64 (if joinB t l m = true then 0 else 3)]) ∧ Built w' C va vn (joinA t l m) (joinN t l m) ∧ Below W.heap.size W w' from by
    obtain ⟨e1, e2, e3, e4⟩ := join_few (t := t) hle
    rw [e1, e2, e3, e4]
    exact toldI (joinL t l m) k aa ab n ca nb cb W C hk hn (by rw [hn]; have := tidyAcc_len (l := joinL t l m) hj1; omega) hbu)
  have HNO := Lib.hid (fun hle : ¬ (tidyAcc l).length * (tidyAcc m).length ≤ 1000 => show (if joinB t l m = true then (0 : Int) else 3) = 3 ∧ joinK t l m = 0 ∧ joinA t l m = [] ∧ joinN t l m = [] from by
    have e := join_many (t := t) hle
    obtain ⟨e1, e2, e3⟩ := join_no e
    rw [e]; exact ⟨rfl, e1, e2, e3⟩)
  have hA1 : (tidyAcc l).length ≤ 1201 := by have := tidyAcc_len hl; omega
  have hA2 : (tidyAcc m).length ≤ 1201 := by have := tidyAcc_len hm; omega
  obtain ⟨C, hC⟩ : ∃ x : Int, x = if joinB t l m = true then 0 else 3 := ⟨_, rfl⟩
  obtain ⟨K, hK⟩ : ∃ x, x = joinK t l m := ⟨_, rfl⟩
  obtain ⟨A, hA⟩ : ∃ x, x = joinA t l m := ⟨_, rfl⟩
  obtain ⟨N, hN⟩ : ∃ x, x = joinN t l m := ⟨_, rfl⟩
  rw [← hC, ← hK, ← hA, ← hN] at HTO HNO
  rw [← hC, ← hK, ← hA, ← hN]
  clear hC hK hA hN
  obtain ⟨PK, hPK⟩ : ∃ x : Nat, x = (pairL t (tidL l) (tidL m)).k := ⟨_, rfl⟩
  obtain ⟨PS, hPS⟩ : ∃ x : Nat, x = (pairL t (tidL l) (tidL m)).start := ⟨_, rfl⟩
  obtain ⟨PA, hPA⟩ : ∃ x, x = (pairL t (tidL l) (tidL m)).acc := ⟨_, rfl⟩
  obtain ⟨PN, hPN⟩ : ∃ x, x = (relOf (pairL t (tidL l) (tidL m))).next := ⟨_, rfl⟩
  rw [← hPK, ← hPS, ← hPA, ← hPN] at HP1
  have HJR := Lib.hid (show relOf (joinL t l m) = ⟨PK, PS, PA, PN⟩ from by rw [hPK, hPS, hPA, hPN]; rfl)
  have HJK := Lib.hid (show ((joinL t l m).k : Int) = PK from by rw [hPK]; rfl)
  rw [HJR.out, HJK.out] at HT3
  rw [HJK.out] at HTO
  obtain ⟨JA, hJA⟩ : ∃ x, x = tidyAcc (joinL t l m) := ⟨_, rfl⟩
  obtain ⟨JN, hJN⟩ : ∃ x, x = tidyNext (joinL t l m) := ⟨_, rfl⟩
  rw [← hJA, ← hJN] at HT3 HTO
  obtain ⟨K1, hK1⟩ : ∃ x : Int, x = l.k := ⟨_, rfl⟩
  obtain ⟨K2, hK2⟩ : ∃ x : Int, x = m.k := ⟨_, rfl⟩
  obtain ⟨A1, hA1'⟩ : ∃ x, x = tidyAcc l := ⟨_, rfl⟩
  obtain ⟨A2, hA2'⟩ : ∃ x, x = tidyAcc m := ⟨_, rfl⟩
  obtain ⟨N1, hN1⟩ : ∃ x, x = tidyNext l := ⟨_, rfl⟩
  obtain ⟨N2, hN2⟩ : ∃ x, x = tidyNext m := ⟨_, rfl⟩
  rw [← hK1, ← hA1', ← hN1] at HT1
  rw [← hK2, ← hA2', ← hN2] at HT2
  rw [← hK1, ← hK2, ← hA1', ← hA2', ← hN1, ← hN2] at HP1
  rw [← hA1', ← hA2'] at HT3 HTO HNO
  rw [← hA1'] at hA1
  rw [← hA2'] at hA2
  rw [size_alloc'] at HT1
  clear HJR HJK hPK hPS hPA hPN hJA hJN hK1 hK2 hA1' hA2' hN1 hN2 hj1 hjlen hP hl hm hk hnl hnm h h' hB hbp hbq
  go_enter Tryd.func16, Tryd.ntmps16
  go_wp2_with fail
  refine HT1.out.mono ?_
  rintro e w3 ⟨va, vn, rfl, hbu, hb3⟩
  have HK3 := Lib.hid (show Kp w w3 from hb3)
  have HBU3 := Lib.hid hbu
  obtain ⟨a3, n3, c3, rfl, hn3⟩ := hbu.acc.shape'
  obtain ⟨items3, -, hnx3, -⟩ := hbu.rows
  obtain ⟨b3, m3, d3, rfl, -⟩ := hnx3.shape'
  have HN3 := Lib.hid (show n3 = A1.length from by rw [hn3.out, List.length_map])
  have HC2 := Lib.hid (HT2.out (w3.alloc (.cells #[.int .i64 K1, .int .i64 0, .slice a3 n3 c3, .slice b3 m3 d3] 27)) ((Kp.base HK3.out).alloc (by have := Kp.size HK3.out; omega) _))
  have hs3 := Kp.size HK3.out
  clear hbu hb3 hnx3 hn3 HT1 HT2
  go_wp2_with fail
  refine HC2.out.mono ?_
  rintro e w5 ⟨va, vn, rfl, hbu, hb5⟩
  have hs5 := hb5.size
  rw [size_alloc'] at hbu hb5 hs5
  have HBU5 := Lib.hid hbu
  have HLB := Lib.hid (show w5.heap[w3.heap.size]? = some (.cells #[.int .i64 K1, .int .i64 0, .slice a3 n3 c3, .slice b3 m3 d3] 27 (0, 0)) from (hb5.block _ (Nat.lt_succ_self _)).trans (heap_alloc_new _ _))
  have HB35 := Lib.hid (show Below w3.heap.size w3 w5 from ((Below.refl _ _).alloc (Nat.le_refl _) _).trans (hb5.mono (Nat.le_succ _)))
  have HK5 := Lib.hid (show Kp w w5 from Below.trans HK3.out (HB35.out.mono (Kp.size HK3.out)))
  have HS35 := Lib.hid (show w3.heap.size < w5.heap.size from hs5)
  obtain ⟨a5, n5, c5, rfl, hn5⟩ := hbu.acc.shape'
  obtain ⟨items5, -, hnx5, -⟩ := hbu.rows
  obtain ⟨b5, m5, d5, rfl, -⟩ := hnx5.shape'
  have HN5 := Lib.hid (show n5 = A2.length from by rw [hn5.out, List.length_map])
  have hl3b := lt_of_block HLB.out
  have l2 := cells_get HLB.out 2
  simp at l2
  have hm3a : n3 ≤ 1201 := by rw [HN3.out]; exact hA1
  have hm5a : n5 ≤ 1201 := by rw [HN5.out]; exact hA2
  obtain ⟨P, hP⟩ : ∃ P, P = n3 * n5 := ⟨_, rfl⟩
  have hPm : P ≤ 1442401 := by rw [hP]; exact Nat.mul_le_mul hm3a hm5a
  have hmul : (n3 : Int) * (n5 : Int) = (P : Int) := by rw [hP]; exact (Int.natCast_mul n3 n5).symm
  have hwP : IntKind.i64.wrap (P : Int) = (P : Int) := by rw [IntKind.wrap_i64]; omega
  have HP := Lib.hid (show P = A1.length * A2.length from by rw [hP, HN3.out, HN5.out])
  clear hP hbu hb5 hnx5 hn5 HC2
  by_cases hle : P ≤ 1000
  · have hle' := hle
    rw [HP.out] at hle'
    have HLE := Lib.hid hle'
    have HLB6 := Lib.hid (show (w5.alloc (.cells #[.int .i64 K2, .int .i64 0, .slice a5 n5 c5, .slice b5 m5 d5] 27)).heap[w3.heap.size]? = some (.cells #[.int .i64 K1, .int .i64 0, .slice a3 n3 c3, .slice b3 m3 d3] 27 (0, 0)) from (Below.heap_alloc _ _ _ HS35.out).trans HLB.out)
    have HB5A := Lib.hid (show Below w5.heap.size w5 (w5.alloc (.cells #[.int .i64 K2, .int .i64 0, .slice a5 n5 c5, .slice b5 m5 d5] 27)) from (Below.refl _ _).alloc (Nat.le_refl _) _)
    have HC3 := Lib.hid (HP1.out (w5.alloc (.cells #[.int .i64 K2, .int .i64 0, .slice a5 n5 c5, .slice b5 m5 d5] 27)) w3.heap.size w5.heap.size (built_ptr (HBU3.out.below (HB35.out.trans (HB5A.out.mono HB35.out.size))) HLB6.out) (built_ptr (HBU5.out.below HB5A.out) (heap_alloc_new _ _)) (by rw [size_alloc']; have := HS35.out; omega) (by rw [size_alloc']; exact Nat.lt_succ_self _) hle')
    have HKA := Lib.hid (show Kp w (w5.alloc (.cells #[.int .i64 K2, .int .i64 0, .slice a5 n5 c5, .slice b5 m5 d5] 27)) from Below.alloc HK5.out (Kp.size HK5.out) _)
    clear hle' HP1 HNO
    go_wp2_with fail
    refine HC3.out.mono ?_
    rintro e w7 ⟨va, vn, rfl, hbu, hb7⟩
    have HK7 := Lib.hid (show Kp w w7 from Below.trans HKA.out (hb7.mono (Kp.size HKA.out)))
    have HBU7 := Lib.hid hbu
    obtain ⟨a7, n7, c7, rfl, hn7⟩ := hbu.acc.shape'
    obtain ⟨items7, -, hnx7, -⟩ := hbu.rows
    obtain ⟨b7, m7, d7, rfl, -⟩ := hnx7.shape'
    have HC4 := Lib.hid (HT3.out HLE.out (w7.alloc (.cells #[.int .i64 PK, .int .i64 PS, .slice a7 n7 c7, .slice b7 m7 d7] 27)) w7.heap.size (built_ptr (HBU7.out.below ((Below.refl _ _).alloc (Nat.le_refl _) _)) (heap_alloc_new _ _)) (by rw [size_alloc']; exact Nat.lt_succ_self _))
    have HK8 := Lib.hid (show Kp w (w7.alloc (.cells #[.int .i64 PK, .int .i64 PS, .slice a7 n7 c7, .slice b7 m7 d7] 27)) from Below.alloc HK7.out (Kp.size HK7.out) _)
    clear hbu hb7 hnx7 hn7 HC3 HT3 l2
    go_wp2_with fail
    refine HC4.out.mono ?_
    rintro e w9 ⟨va, vn, rfl, hbu, hb9⟩
    have HK9 := Lib.hid (show Kp w w9 from Below.trans HK8.out (hb9.mono (Kp.size HK8.out)))
    have HBU9 := Lib.hid hbu
    obtain ⟨a9, n9, c9, rfl, hn9⟩ := hbu.acc.shape'
    obtain ⟨items9, -, hnx9, -⟩ := hbu.rows
    obtain ⟨b9, m9, d9, rfl, -⟩ := hnx9.shape'
    have HC5 := Lib.hid (HTO.out HLE.out _ a9 b9 n9 c9 m9 d9 w9 _ rfl (by rw [hn9.out, List.length_map]) HBU9.out)
    clear hbu hb9 hnx9 hn9 HC4 HTO
    go_wp2_with fail
    refine HC5.out.mono ?_
    rintro e w10 ⟨va, vn, rfl, hbu, hb10⟩
    have HK10 := Lib.hid (show Kp w w10 from Below.trans HK9.out (hb10.mono (Kp.size HK9.out)))
    have HBU := Lib.hid (show Built w10 (w.heap.size + 1) va vn A N from hbu.mono (Kp.size HK8.out))
    obtain ⟨a1, n1, c1, rfl, hn1⟩ := hbu.acc.shape'
    obtain ⟨items1, -, hnx1, -⟩ := hbu.rows
    obtain ⟨b1, m1, d1, rfl, -⟩ := hnx1.shape'
    have hres := Kp.res HK10.out
    clear hbu hb10 hnx1 hn1 HC5
    have r0 := cells_get hres 0
    have r1 := cells_get hres 1
    have r2 := cells_get hres 2
    have r3 := cells_get hres 3
    have f0 := cells_free hres 0
    have f1 := cells_free hres 1
    have f2 := cells_free hres 2
    have f3 := cells_free hres 3
    have hlS := lt_of_block hres
    have p0 := cells_set hres 0 (.int .i64 K)
    have p1 := cells_set p0 1 (.int .i64 0)
    have p2 := cells_set p1 2 (.slice a1 n1 c1)
    have p3 := cells_set p2 3 (.slice b1 m1 d1)
    simp at r0 r1 r2 r3 p3
    have g0 := cells_get p3 0
    have g1 := cells_get p3 1
    have g2 := cells_get p3 2
    have g3 := cells_get p3 3
    simp at g0 g1 g2 g3
    have HG := Lib.hid (And.intro g0 (And.intro g1 (And.intro g2 g3)))
    clear p0 p1 p2 p3 g0 g1 g2 g3 hres
    go_wp2_with fail
    obtain ⟨g0, g1, g2, g3⟩ := HG.out
    refine bodyPost_ret (v := .tuple #[.agg #[.int .i64 K, .int .i64 0, .slice a1 n1 c1, .slice b1 m1 d1], .int .i64 C]) (by simp [results, Tryd.results16, go_sem, g0, g1, g2, g3]) rfl ⟨.slice a1 n1 c1, .slice b1 m1 d1, rfl, ?_, ?_⟩
    · exact ((((HBU.out.setLow (a := ⟨w.heap.size, 0, none⟩) (Nat.lt_succ_self _) _).setLow (a := ⟨w.heap.size, 1, none⟩) (Nat.lt_succ_self _) _).setLow (a := ⟨w.heap.size, 2, none⟩) (Nat.lt_succ_self _) _).setLow (a := ⟨w.heap.size, 3, none⟩) (Nat.lt_succ_self _) _).mono (Nat.le_succ _)
    · have HBW := Kp.base HK10.out
      exact ((((HBW.setCell (p := ⟨w.heap.size, 0, none⟩) (Nat.le_refl _) _).setCell (p := ⟨w.heap.size, 1, none⟩) (Nat.le_refl _) _).setCell (p := ⟨w.heap.size, 2, none⟩) (Nat.le_refl _) _).setCell (p := ⟨w.heap.size, 3, none⟩) (Nat.le_refl _) _)
  · have hle' := hle
    rw [HP.out] at hle'
    obtain ⟨rfl, rfl, rfl, rfl⟩ := HNO.out hle'
    have hres := Kp.res HK5.out
    have r0 := cells_get hres 0
    have r1 := cells_get hres 1
    have r2 := cells_get hres 2
    have r3 := cells_get hres 3
    have f0 := cells_free hres 0
    have f1 := cells_free hres 1
    have f2 := cells_free hres 2
    have f3 := cells_free hres 3
    have hlS := lt_of_block hres
    have p0 := cells_set hres 0 (.int .i64 0)
    have p1 := cells_set p0 1 (.int .i64 0)
    have p2 := cells_set p1 2 (Value.slice none 0 0)
    have p3 := cells_set p2 3 (Value.slice none 0 0)
    simp at r0 r1 r2 r3 p3
    have p4 := (Below.heap_alloc _ (.cells #[.int .i64 K2, .int .i64 0, .slice a5 n5 c5, .slice b5 m5 d5] 27) _ (lt_of_block p3)).trans p3
    have g0 := cells_get p4 0
    have g1 := cells_get p4 1
    have g2 := cells_get p4 2
    have g3 := cells_get p4 3
    simp at g0 g1 g2 g3
    have HG := Lib.hid (And.intro g0 (And.intro g1 (And.intro g2 g3)))
    clear p0 p1 p2 p3 p4 g0 g1 g2 g3 hres
    clear HP1 HNO HT3 HTO hle'
    go_wp2_with fail
    obtain ⟨g0, g1, g2, g3⟩ := HG.out
    refine bodyPost_ret (v := .tuple #[.agg #[.int .i64 0, .int .i64 0, .slice none 0 0, .slice none 0 0], .int .i64 3]) (by simp [results, Tryd.results16, go_sem, g0, g1, g2, g3]) rfl ⟨.slice none 0 0, .slice none 0 0, rfl, ImplTidied.built_none _ _, ?_⟩
    have HBW := Kp.base HK5.out
    exact ((((HBW.setCell (p := ⟨w.heap.size, 0, none⟩) (Nat.le_refl _) _).setCell (p := ⟨w.heap.size, 1, none⟩) (Nat.le_refl _) _).setCell (p := ⟨w.heap.size, 2, none⟩) (Nat.le_refl _) _).setCell (p := ⟨w.heap.size, 3, none⟩) (Nat.le_refl _) _).alloc (by simp [World.setCell]; have := HBW.size; omega) _

end Go.Proofs.YtaimealknkhfbaaDoor.TwoSpec
