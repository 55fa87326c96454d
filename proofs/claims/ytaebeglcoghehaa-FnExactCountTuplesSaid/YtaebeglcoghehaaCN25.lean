
/- What the model's function that makes the automaton of pairs of states hands back.
   Conditions: stated at each theorem. -/
import Derived.Test.YtaebeglcoghehaaCN9
import Derived.Test.YtaebeglcoghehaaCN24
import Derived.Deep.RegionLaw
import Derived.Deep.RegionHeld3
import Derived.Deep.DrawnRows
namespace Go.Proofs.Ytaebeglcoghehaa.DifferB
set_option linter.unusedVariables false
set_option linter.unusedSimpArgs false
set_option maxRecDepth 100000
open Go.RowKit Mem Copy Rel Valid Heap Push Columns Bld TidyMath TidyAuto TidyRight SpecFiner SpecRight PairMath

theorem mul_le_pairB {a b n m : Nat} (ha : a < n) (hb : b < m) (h : n * m ≤ 2000000) : a * m ≤ 2000000 ∧ a * m + b ≤ 2000000 := by
  have := pair_lt ha hb
  omega
theorem sidesB {n m : Nat} (hn : 0 < n) (hm : 0 < m) (h : n * m ≤ 2000000) : n ≤ 2000000 ∧ m ≤ 2000000 :=
  ⟨Nat.le_trans (Nat.le_mul_of_pos_right n hm) h, Nat.le_trans (Nat.le_mul_of_pos_left m hn) h⟩
attribute [local go_sem ↓] Go.wp_at_zero Go.wp_at_succ

theorem rel_row (l : L) (p : Nat) : (relOf l).next.getD p [] = ofN (l.nx.getD p []) := by
  unfold relOf
  simp only [List.getD, List.getElem?_map]
  cases l.nx[p]? <;> rfl
theorem ofN_len (x : List Nat) : (ofN x).length = x.length := by simp [ofN]
theorem ofN_get (x : List Nat) (c : Nat) : (ofN x).getD c 0 = ((x.getD c 0 : Nat) : Int) := by
  unfold ofN
  simp only [List.getD, List.getElem?_map]
  cases x[c]? <;> rfl
/-- A relation behind a pointer, cell by cell, whatever is made later. -/
theorem laidP {w : World} {B bp : Nat} {l : L} (hl : l.Ok) (h : RelPtr w B bp (relOf l)) (hB : B ≤ w.heap.size) (hbp : bp < w.heap.size) :
    ∃ (ba oa ca bb ob cb : Nat) (V : Nat → Value), ba < w.heap.size ∧ bb < w.heap.size ∧
      (∀ W, Below w.heap.size w W → W.cell? ⟨bp, 0, none⟩ = some (.int .i64 l.k) ∧ W.cell? ⟨bp, 1, none⟩ = some (.int .i64 l.start) ∧ W.cell? ⟨bp, 2, none⟩ = some (.slice (some ⟨ba, oa, none⟩) l.acc.length ca) ∧ W.cell? ⟨bp, 3, none⟩ = some (.slice (some ⟨bb, ob, none⟩) l.acc.length cb)) ∧
      (∀ W, Below w.heap.size w W → ∀ p, p < l.acc.length → W.cell? ⟨ba, oa + p, none⟩ = some (.bool (l.acc.getD p false)) ∧ W.cell? ⟨bb, ob + p, none⟩ = some (V p)) ∧
      ∀ p, p < l.acc.length → ∃ br or' cr, V p = .slice (some ⟨br, or', none⟩) (wide l.k) cr ∧ br < w.heap.size ∧ ∀ W, Below w.heap.size w W → ∀ c, c < wide l.k → W.cell? ⟨br, or' + c, none⟩ = some (.int .i64 ((l.nx.getD p []).getD c 0 : Nat)) := by
  have hl0 : 0 < l.acc.length := Nat.lt_of_le_of_lt (Nat.zero_le _) hl.st
  obtain ⟨va, vn, c0, c1, c2, c3, ha, hx⟩ := h
  obtain ⟨aa, ba, oa, ca, rfl, hma, haa, hca⟩ := ha
  obtain ⟨rfl, hba⟩ := haa hl0
  obtain ⟨V, hsl, hrows⟩ := hx
  obtain ⟨ab, bb, ob, cb, rfl, hmb, hab, hcb⟩ := hsl
  have hnl : (relOf l).next.length = l.acc.length := by show (l.nx.map ofN).length = _; rw [List.length_map]; exact hl.len
  rw [hnl] at hab hcb hrows c3
  obtain ⟨rfl, hbb⟩ := hab hl0
  refine ⟨ba, oa, ca, bb, ob, cb, V, by omega, by omega, fun W hW => ⟨(hW.cell (p := ⟨bp, 0, none⟩) hbp).trans c0, (hW.cell (p := ⟨bp, 1, none⟩) hbp).trans c1, (hW.cell (p := ⟨bp, 2, none⟩) hbp).trans c2, (hW.cell (p := ⟨bp, 3, none⟩) hbp).trans c3⟩,
    fun W hW p hp => ⟨(hW.cell (p := ⟨ba, oa + p, none⟩) (show ba < w.heap.size by omega)).trans (hca p hp), (hW.cell (p := ⟨bb, ob + p, none⟩) (show bb < w.heap.size by omega)).trans (hcb p hp)⟩, fun p hp => ?_⟩
  have hr := hrows p hp
  rw [rel_row] at hr
  obtain ⟨ar, br, or', cr, hv, -, hra, hrc⟩ := hr
  have hlen : (ofN (l.nx.getD p [])).length = wide l.k := by rw [ofN_len]; exact hl.row p hp
  have hw := wide_cases hl.k0 hl.k3
  rw [hlen] at hv hra hrc
  obtain ⟨rfl, hbr⟩ := hra (by omega)
  refine ⟨br, or', cr, hv, by omega, fun W hW c hc => ?_⟩
  rw [hW.cell (p := ⟨br, or' + c, none⟩) (show br < w.heap.size by omega), hrc c hc]
  show some (Value.int .i64 ((ofN (l.nx.getD p [])).getD c 0)) = _
  rw [ofN_get]

/-- Just one of two. -/
def dif (a b : Bool) : Bool := !(a == b)
set_option maxHeartbeats 16000000 in
theorem differ (l m : L) (hl : l.Ok) (hm : m.Ok) (hk : l.k = m.k) (bp bq : Nat) (w : World) (B : Nat) (h : RelPtr w B bp (relOf l)) (h' : RelPtr w B bq (relOf m)) (hB : B ≤ w.heap.size) (hbp : bp < w.heap.size) (hbq : bq < w.heap.size) (hnm : l.acc.length * m.acc.length ≤ 2000000) :
    Calls Try.prog 132 #[.pointer (some ⟨bp, 0, none⟩), .pointer (some ⟨bq, 0, none⟩)] w fun e w' => ∃ va vn, e = .returned (.agg #[.int .i64 (pairL dif l m).k, .int .i64 (pairL dif l m).start, va, vn]) ∧ Built w' w.heap.size va vn (pairL dif l m).acc (relOf (pairL dif l m)).next ∧ Below w.heap.size w w' := by
  obtain ⟨t, ht⟩ : ∃ t, t = dif := ⟨_, rfl⟩
  rw [← ht]
  have HDIF := Lib.hid (show ∀ a b, t a b = !(a == b) from fun a b => by rw [ht]; rfl)
  clear ht
  have hl0 : 0 < l.acc.length := Nat.lt_of_le_of_lt (Nat.zero_le _) hl.st
  have hm0 : 0 < m.acc.length := Nat.lt_of_le_of_lt (Nat.zero_le _) hm.st
  obtain ⟨hs1, hs2⟩ := sidesB hl0 hm0 hnm
  obtain ⟨ba, oa, ca, bb, ob, cb, V, hba, hbb, hptr, hcell, hrowV⟩ := laidP hl h hB hbp
  obtain ⟨bc, oc, cc, bd, od, cd, U, hbc, hbd, hptr', hcell', hrowU⟩ := laidP hm h' hB hbq
  rw [← hk] at hrowU
  have hw26 : 0 < wide l.k ∧ wide l.k ≤ 26 := by have := wide_cases hl.k0 hl.k3; omega
  have HPB := Lib.hid hptr
  have HQB := Lib.hid hptr'
  have HC1 := Lib.hid hcell
  have HC2 := Lib.hid hcell'
  have HV := Lib.hid hrowV
  have HU := Lib.hid hrowU
  have HLL := Lib.hid (fun p (hp : p < l.acc.length) c (hc : c < wide l.k) => hl.lt p hp c hc)
  have HLM := Lib.hid (fun q (hq : q < m.acc.length) c (hc : c < wide l.k) => hm.lt q hq c (by rw [← hk]; exact hc))
  have HAT := Lib.hid (fun p q hp hq => acc_next t l m (p := p) (q := q) hp hq)
  have HNT := Lib.hid (fun p q hp hq => next_next t l m (p := p) (q := q) hp hq)
  have HALL := Lib.hid (show (pairL t l m).acc.take (l.acc.length * m.acc.length) = (pairL t l m).acc from List.take_of_length_le (by rw [pairL_len]; exact Nat.le_refl _))
  have HNLL := Lib.hid (show (relOf (pairL t l m)).next.take (l.acc.length * m.acc.length) = (relOf (pairL t l m)).next from List.take_of_length_le (by rw [rel_next_len]; exact Nat.le_refl _))
  have HALn := Lib.hid (show (pairL t l m).acc.length ≤ 2000000 by rw [pairL_len]; exact hnm)
  have HNLn := Lib.hid (show (relOf (pairL t l m)).next.length ≤ 2000000 by rw [rel_next_len]; exact hnm)
  have hP := mul_le_pairB hl.st hm.st hnm
  have HSTP := Lib.hid (show (pairL t l m).start = l.start * m.acc.length + m.start from rfl)
  have HKP := Lib.hid (show (pairL t l m).k = l.k from rfl)
  have HML := Lib.hid (fun (x y : Nat) (hx : x < l.acc.length) (hy : y < m.acc.length) => mul_le_pairB hx hy hnm)
  have HRP := Lib.hid (fun p q => show rowPQ l m p q = (List.range (wide l.k)).map fun c => (((l.nx.getD p []).getD c 0 * m.acc.length + (m.nx.getD q []).getD c 0 : Nat) : Int) from rfl)
  obtain ⟨AC, hAC⟩ : ∃ AC, AC = (pairL t l m).acc := ⟨_, rfl⟩
  obtain ⟨NX, hNX⟩ : ∃ NX, NX = (relOf (pairL t l m)).next := ⟨_, rfl⟩
  obtain ⟨KP, hKP⟩ : ∃ KP, KP = (pairL t l m).k := ⟨_, rfl⟩
  obtain ⟨SP, hSP⟩ : ∃ SP, SP = (pairL t l m).start := ⟨_, rfl⟩
  obtain ⟨n1, hn1⟩ : ∃ n, n = l.acc.length := ⟨_, rfl⟩
  obtain ⟨n2, hn2⟩ : ∃ n, n = m.acc.length := ⟨_, rfl⟩
  obtain ⟨wd, hwd⟩ : ∃ n, n = wide l.k := ⟨_, rfl⟩
  obtain ⟨k, hkk⟩ : ∃ n, n = l.k := ⟨_, rfl⟩
  obtain ⟨k2, hkk2⟩ : ∃ n, n = m.k := ⟨_, rfl⟩
  obtain ⟨st, hst⟩ : ∃ n, n = l.start := ⟨_, rfl⟩
  obtain ⟨st2, hst2⟩ : ∃ n, n = m.start := ⟨_, rfl⟩
  obtain ⟨fa, hfa⟩ : ∃ f : Nat → Bool, f = fun p => l.acc.getD p false := ⟨_, rfl⟩
  obtain ⟨fb, hfb⟩ : ∃ f : Nat → Bool, f = fun p => m.acc.getD p false := ⟨_, rfl⟩
  obtain ⟨fx, hfx⟩ : ∃ f : Nat → Nat → Nat, f = fun p c => (l.nx.getD p []).getD c 0 := ⟨_, rfl⟩
  obtain ⟨fy, hfy⟩ : ∃ f : Nat → Nat → Nat, f = fun p c => (m.nx.getD p []).getD c 0 := ⟨_, rfl⟩
  have HPB := Lib.hid (show ∀ W, Below w.heap.size w W → W.cell? ⟨bp, 0, none⟩ = some (.int .i64 k) ∧ W.cell? ⟨bp, 1, none⟩ = some (.int .i64 st) ∧ W.cell? ⟨bp, 2, none⟩ = some (.slice (some ⟨ba, oa, none⟩) n1 ca) ∧ W.cell? ⟨bp, 3, none⟩ = some (.slice (some ⟨bb, ob, none⟩) n1 cb) from by rw [hkk, hst, hn1]; exact HPB.out)
  have HQB := Lib.hid (show ∀ W, Below w.heap.size w W → W.cell? ⟨bq, 0, none⟩ = some (.int .i64 k2) ∧ W.cell? ⟨bq, 1, none⟩ = some (.int .i64 st2) ∧ W.cell? ⟨bq, 2, none⟩ = some (.slice (some ⟨bc, oc, none⟩) n2 cc) ∧ W.cell? ⟨bq, 3, none⟩ = some (.slice (some ⟨bd, od, none⟩) n2 cd) from by rw [hkk2, hst2, hn2]; exact HQB.out)
  have HC1 := Lib.hid (show ∀ W, Below w.heap.size w W → ∀ p, p < n1 → W.cell? ⟨ba, oa + p, none⟩ = some (.bool (fa p)) ∧ W.cell? ⟨bb, ob + p, none⟩ = some (V p) from by rw [hn1, hfa]; exact HC1.out)
  have HC2 := Lib.hid (show ∀ W, Below w.heap.size w W → ∀ p, p < n2 → W.cell? ⟨bc, oc + p, none⟩ = some (.bool (fb p)) ∧ W.cell? ⟨bd, od + p, none⟩ = some (U p) from by rw [hn2, hfb]; exact HC2.out)
  have HV := Lib.hid (show ∀ p, p < n1 → ∃ br or' cr, V p = .slice (some ⟨br, or', none⟩) wd cr ∧ br < w.heap.size ∧ ∀ W, Below w.heap.size w W → ∀ c, c < wd → W.cell? ⟨br, or' + c, none⟩ = some (.int .i64 (fx p c : Nat)) from by rw [hn1, hwd, hfx]; exact HV.out)
  have HU := Lib.hid (show ∀ p, p < n2 → ∃ br or' cr, U p = .slice (some ⟨br, or', none⟩) wd cr ∧ br < w.heap.size ∧ ∀ W, Below w.heap.size w W → ∀ c, c < wd → W.cell? ⟨br, or' + c, none⟩ = some (.int .i64 (fy p c : Nat)) from by rw [hn2, hwd, hfy]; exact HU.out)
  have HLL := Lib.hid (show ∀ p, p < n1 → ∀ c, c < wd → fx p c < n1 from by rw [hn1, hwd, hfx]; exact HLL.out)
  have HLM := Lib.hid (show ∀ p, p < n2 → ∀ c, c < wd → fy p c < n2 from by rw [hn2, hwd, hfy]; exact HLM.out)
  have HAT := Lib.hid (show ∀ p q, p < n1 → q < n2 → AC.take (p * n2 + q + 1) = AC.take (p * n2 + q) ++ [t (fa p) (fb q)] from by rw [hn1, hn2, hAC, hfa, hfb]; exact HAT.out)
  have HNT := Lib.hid (show ∀ p q, p < n1 → q < n2 → NX.take (p * n2 + q + 1) = NX.take (p * n2 + q) ++ [rowPQ l m p q] from by rw [hn1, hn2, hNX]; exact HNT.out)
  have HRP := Lib.hid (show ∀ p q, (rowPQ l m p q).map (Value.int .i64) = tv wd fun c => ((fx p c * n2 + fy q c : Nat) : Int) from fun p q => by rw [hn2, hwd, hfx, hfy, HRP.out p q]; unfold tv; rw [List.map_map]; rfl)
  have HML := Lib.hid (show ∀ x y : Nat, x < n1 → y < n2 → x * n2 ≤ 2000000 ∧ x * n2 + y ≤ 2000000 from by rw [hn1, hn2]; exact HML.out)
  have HALL := Lib.hid (show AC.take (n1 * n2) = AC from by rw [hn1, hn2, hAC]; exact HALL.out)
  have HNLL := Lib.hid (show NX.take (n1 * n2) = NX from by rw [hn1, hn2, hNX]; exact HNLL.out)
  have HALn := Lib.hid (show AC.length ≤ 2000000 from by rw [hAC]; exact HALn.out)
  have HNLn := Lib.hid (show NX.length ≤ 2000000 from by rw [hNX]; exact HNLn.out)
  obtain ⟨P0, hP0⟩ : ∃ P0, P0 = st * n2 := ⟨_, rfl⟩
  have hmulS : (st : Int) * (n2 : Int) = (P0 : Int) := by rw [hP0]; exact (Int.natCast_mul st n2).symm
  have hP0a : P0 ≤ 2000000 := by rw [hP0, hst, hn2]; exact hP.1
  have hP0b : P0 + st2 ≤ 2000000 := by rw [hP0, hst, hn2, hst2]; exact hP.2
  have HSP := Lib.hid (show (SP : Int) = (P0 : Int) + st2 from by rw [hSP, HSTP.out, hP0, hst, hn2, hst2]; exact Int.natCast_add _ _)
  have HKP := Lib.hid (show (KP : Int) = (k : Int) from by rw [hKP, HKP.out, hkk])
  rw [← hn1] at hl0 hs1
  rw [← hn2] at hm0 hs2
  rw [← hwd] at hw26
  rw [← hAC, ← hNX, ← hKP, ← hSP]
  have hst01 : st ≤ 2000000 := by
    have : st < n1 := by rw [hst, hn1]; exact hl.st
    omega
  clear hAC hNX hKP hSP hn1 hn2 hwd hkk hkk2 hst hst2 hfa hfb hfx hfy hP0 hP hcell hcell' hrowV hrowU hptr hptr' hk hl hm h h' hnm hB
  have HD0 := Lib.hid (show Bld ((w.alloc (.cells #[Value.int .i64 0, .int .i64 0, .slice none 0 0, .slice none 0 0] 29)).alloc (.cells #[Value.int .i64 k, .int .i64 ((P0 : Int) + st2), .slice none 0 0, .slice none 0 0] 29)) (w.heap.size + 1) (w.heap.size + 1) k ((P0 : Int) + st2) (.slice none 0 0) (.slice none 0 0) [] [] ((AC.take (0 * n2)).map Value.bool) from by
    rw [Nat.zero_mul]
    refine ⟨Own.nil _ _ _, Lst.nil _ _ _, Lst.nil _ _ _, ?_, Nat.le_refl _⟩
    have := heap_alloc_new (w.alloc (.cells #[Value.int .i64 0, .int .i64 0, .slice none 0 0, .slice none 0 0] 29)) (.cells #[Value.int .i64 k, .int .i64 ((P0 : Int) + st2), .slice none 0 0, .slice none 0 0] 29)
    rwa [size_alloc'] at this)
  have HK0 := Lib.hid (show Kp w ((w.alloc (.cells #[Value.int .i64 0, .int .i64 0, .slice none 0 0, .slice none 0 0] 29)).alloc (.cells #[Value.int .i64 k, .int .i64 ((P0 : Int) + st2), .slice none 0 0, .slice none 0 0] 29)) from (Below.refl _ _).alloc (by rw [size_alloc']; exact Nat.le_refl _) _)
  have HKZ := Lib.hid (show Kp w (w.alloc (.cells #[Value.int .i64 0, .int .i64 0, .slice none 0 0, .slice none 0 0] 29)) from Below.refl _ _)
  obtain ⟨b0, b1, b2, b3⟩ := HPB.out _ (Kp.base HKZ.out)
  obtain ⟨e0, e1, e2, e3⟩ := HQB.out _ (Kp.base HKZ.out)
  have lbp : bp < (w.alloc (.cells #[Value.int .i64 0, .int .i64 0, .slice none 0 0, .slice none 0 0] 29)).heap.size := by rw [size_alloc']; omega
  have lbq : bq < (w.alloc (.cells #[Value.int .i64 0, .int .i64 0, .slice none 0 0, .slice none 0 0] 29)).heap.size := by rw [size_alloc']; omega
  have hwr1 : IntKind.i64.wrap (P0 : Int) = (P0 : Int) := by rw [IntKind.wrap_i64]; omega
  have hwr2 : IntKind.i64.wrap ((P0 : Int) + (st2 : Int)) = (P0 : Int) + st2 := by rw [IntKind.wrap_i64]; omega
  go_enter Try.func132, Try.ntmps132
  go_upto_region 2 with fail
  go_cut [6] (fun v6 wx => v6 = .pointer (some ⟨w.heap.size + 1, 0, none⟩) ∧ Bld wx (w.heap.size + 1) (w.heap.size + 1) k ((P0 : Int) + st2) (.slice none 0 0) (.slice none 0 0) [] [] ((AC.take (0 * n2)).map Value.bool) ∧ Kp w wx)
  case first =>
    go_region_held3 (fun w' => w'.cell? ⟨bp, 0, none⟩ = some (.int .i64 k) ∧ w'.cell? ⟨bp, 1, none⟩ = some (.int .i64 st) ∧ w'.cell? ⟨bq, 1, none⟩ = some (.int .i64 st2))
      (first | go_keep | exact ⟨(HPB.out _ (Kp.base HK0.out)).1, (HPB.out _ (Kp.base HK0.out)).2.1, (HQB.out _ (Kp.base HK0.out)).2.1⟩) (fail)
    all_goals
      go_wp2_with fail
      go_meet
      exact ⟨rfl, HD0.out.drew, Below.drew HK0.out⟩
  case rest =>
    obtain ⟨rfl, hd, hk⟩ := hcut
    have HD0 := Lib.hid hd
    have HK0 := Lib.hid hk
    clear hd hk hwr1 hwr2 b0 b1 b2 b3 e0 e1 e2 e3 lbp lbq HKZ hmulS hP0a hP0b
    go_wp2_with fail
    go_loopw [7, 8, 9, 10] (fun s7 _ _ _ wr => ∃ (p : Nat) (va vn : Value) (items : List (Value × List Value)), p ≤ n1 ∧ s7 = .int .i64 p ∧ Bld wr (w.heap.size + 1) (w.heap.size + 1) k ((P0 : Int) + st2) va vn [] items ((AC.take (p * n2)).map Value.bool) ∧ items.map Prod.snd = (NX.take (p * n2)).map (fun x => x.map (Value.int .i64)) ∧ Kp w wr) (fun s7 _ _ _ _ => n1 - (intOf s7).toNat)
    case atStart => exact ⟨0, _, _, [], Nat.zero_le _, rfl, HD0.out, by rw [Nat.zero_mul]; rfl, HK0.out⟩
    case round =>
      obtain ⟨p, va, vn, items, hp, rfl, hd, hi, hk⟩ := hrel
      have HD := Lib.hid hd
      have HI := Lib.hid hi
      have HK := Lib.hid hk
      clear hd hi HD0 HK0
      obtain ⟨b0, b1, b2, b3⟩ := HPB.out _ (Kp.base hk)
      obtain ⟨e0, e1, e2, e3⟩ := HQB.out _ (Kp.base hk)
      have lbp : bp < wr.heap.size := by have := Kp.size hk; omega
      have lbq : bq < wr.heap.size := by have := Kp.size hk; omega
      by_cases hlp : p < n1
      · obtain ⟨br, or', cr, hv, hbr, hrc⟩ := HV.out p hlp
        have HX := Lib.hid hrc
        have HVP := Lib.hid hv
        have hp0 : (0 : Int) ≤ (p : Int) := Int.natCast_nonneg _
        have hp1 : (p : Int) < (n1 : Int) := by omega
        have hHD1 := Lib.hid (show Bld wr (w.heap.size + 1) (w.heap.size + 1) k ((P0 : Int) + st2) va vn [] items ((AC.take (p * n2 + 0)).map Value.bool) from HD.out)
        clear hv hrc hk HD
        go_wp2_with fail
        go_loopw [8, 9, 10] (fun s8 _ _ wr2 => ∃ (q : Nat) (va vn : Value) (items : List (Value × List Value)), q ≤ n2 ∧ s8 = .int .i64 q ∧ Bld wr2 (w.heap.size + 1) (w.heap.size + 1) k ((P0 : Int) + st2) va vn [] items ((AC.take (p * n2 + q)).map Value.bool) ∧ items.map Prod.snd = (NX.take (p * n2 + q)).map (fun x => x.map (Value.int .i64)) ∧ Kp w wr2) (fun s8 _ _ _ => n2 - (intOf s8).toNat)
        case atStart => exact ⟨0, va, vn, items, Nat.zero_le _, rfl, hHD1.out, HI.out, HK.out⟩
        case round =>
          obtain ⟨q, va, vn, items, hq, rfl, hd, hi, hk⟩ := hrel
          have HD := Lib.hid hd
          have HI := Lib.hid hi
          have HK := Lib.hid hk
          clear hd hi hHD1 b0 b1 b2 b3 e0 e1 e2 e3 lbp lbq
          obtain ⟨b0, b1, b2, b3⟩ := HPB.out _ (Kp.base hk)
          obtain ⟨e0, e1, e2, e3⟩ := HQB.out _ (Kp.base hk)
          have lbp : bp < wr.heap.size := by have := Kp.size hk; omega
          have lbq : bq < wr.heap.size := by have := Kp.size hk; omega
          by_cases hlq : q < n2
          · obtain ⟨bs, os, cs, hv, hbs, hsc⟩ := HU.out q hlq
            have HY := Lib.hid hsc
            have HUQ := Lib.hid hv
            have hq0 : (0 : Int) ≤ (q : Int) := Int.natCast_nonneg _
            have hq1 : (q : Int) < (n2 : Int) := by omega
            obtain ⟨g, hg⟩ : ∃ g, g = wr.heap.size := ⟨_, rfl⟩
            have HGS := Lib.hid (show w.heap.size + 1 ≤ g from by rw [hg]; exact Kp.size hk)
            obtain ⟨PQ, hPQ⟩ : ∃ PQ : Nat → Int, PQ = fun c => ((fx p c * n2 + fy q c : Nat) : Int) := ⟨_, rfl⟩
            have HPQ := Lib.hid hPQ
            have HA1 := Lib.hid (show Bld (wr.alloc (.cells #[] 2)) (w.heap.size + 1) (w.heap.size + 1) k ((P0 : Int) + st2) va vn [(.slice (some ⟨g, 0, none⟩) 0 0, tv 0 PQ)] items ((AC.take (p * n2 + q)).map Value.bool) from by
              have h1 := Lst.empty wr (w.heap.size + 1) 2 (Kp.size hk)
              rw [← hg] at h1
              exact HD.out.addInt ((Below.refl _ _).alloc (Nat.le_refl _) _) h1 (fun x hx => by cases hx; rw [hg]; exact Nat.le_refl _))
            have HB1 := Lib.hid (show Kp w (wr.alloc (.cells #[] 2)) from Below.alloc hk (Kp.size hk) _)
            clear hv hsc hPQ hk
            go_wp2_with fail
            rw [← hg]
            clear hg
            go_loopw [9, 10] (fun s9 s10 wr3 => ∃ (c : Nat) (a9 : Option Addr) (c9 : Nat), c ≤ wd ∧ s10 = .int .i64 c ∧ s9 = .slice a9 c c9 ∧ Bld wr3 (w.heap.size + 1) (w.heap.size + 1) k ((P0 : Int) + st2) va vn [(.slice a9 c c9, tv c PQ)] items ((AC.take (p * n2 + q)).map Value.bool) ∧ Kp w wr3) (fun _ s10 _ => wd - (intOf s10).toNat)
            case atStart => exact ⟨0, _, _, Nat.zero_le _, rfl, rfl, HA1.out, HB1.out⟩
            case round =>
              obtain ⟨c, a9, c9, hc, rfl, rfl, hd, hk⟩ := hrel
              have HD2 := Lib.hid hd
              have HK2 := Lib.hid hk
              clear hd HA1 HB1 b0 b1 b2 b3 e0 e1 e2 e3 lbp lbq
              obtain ⟨b0, b1, b2, b3⟩ := HPB.out _ (Kp.base hk)
              obtain ⟨e0, e1, e2, e3⟩ := HQB.out _ (Kp.base hk)
              have lbp : bp < wr.heap.size := by have := Kp.size hk; omega
              have lbq : bq < wr.heap.size := by have := Kp.size hk; omega
              have cV := (HC1.out _ (Kp.base hk) p hlp).2
              rw [HVP.out] at cV
              have cU := (HC2.out _ (Kp.base hk) q hlq).2
              rw [HUQ.out] at cU
              have lbb : bb < wr.heap.size := by have := Kp.size hk; omega
              have lbd : bd < wr.heap.size := by have := Kp.size hk; omega
              by_cases hlc : c < wd
              · have cx := HX.out _ (Kp.base hk) c hlc
                have cy := HY.out _ (Kp.base hk) c hlc
                obtain ⟨x, hx⟩ : ∃ x, x = fx p c := ⟨_, rfl⟩
                obtain ⟨y, hy⟩ : ∃ y, y = fy q c := ⟨_, rfl⟩
                have hxn : x < n1 := by rw [hx]; exact HLL.out p hlp c hlc
                have hyn : y < n2 := by rw [hy]; exact HLM.out q hlq c hlc
                obtain ⟨hP1, hP2⟩ := HML.out x y hxn hyn
                obtain ⟨P, hP⟩ : ∃ P, P = x * n2 := ⟨_, rfl⟩
                have hmul : (x : Int) * (n2 : Int) = (P : Int) := by rw [hP]; exact (Int.natCast_mul x n2).symm
                rw [← hP] at hP1 hP2
                have hwr1 : IntKind.i64.wrap (P : Int) = (P : Int) := by rw [IntKind.wrap_i64]; omega
                have hwr2 : IntKind.i64.wrap ((P : Int) + (y : Int)) = (P : Int) + (y : Int) := by rw [IntKind.wrap_i64]; omega
                have HPV := Lib.hid (show PQ c = (P : Int) + (y : Int) from by rw [HPQ.out, hP, hx, hy]; exact Int.natCast_add _ _)
                rw [← hx] at cx
                rw [← hy] at cy
                have hc0 : (0 : Int) ≤ (c : Int) := Int.natCast_nonneg _
                have hc1 : (c : Int) < (wd : Int) := by omega
                have lbr : br < wr.heap.size := by have := Kp.size hk; omega
                have lbs : bs < wr.heap.size := by have := Kp.size hk; omega
                have HDD := Lib.hid HD2.out.drew
                have HKD := Lib.hid (show Kp w wr.drew from Below.drew HK2.out)
                have HS6 := Lib.hid (show ∀ W, Below w.heap.size w W → W.cell? ⟨bp, 3, none⟩ = some (.slice (some ⟨bb, ob, none⟩) n1 cb) ∧ W.cell? ⟨bb, ob + p, none⟩ = some (.slice (some ⟨br, or', none⟩) wd cr) ∧ W.cell? ⟨br, or' + c, none⟩ = some (.int .i64 (x : Nat)) ∧ W.cell? ⟨bq, 3, none⟩ = some (.slice (some ⟨bd, od, none⟩) n2 cd) ∧ W.cell? ⟨bd, od + q, none⟩ = some (.slice (some ⟨bs, os, none⟩) wd cs) ∧ W.cell? ⟨bs, os + c, none⟩ = some (.int .i64 (y : Nat)) from fun W hW =>
                  ⟨(HPB.out W hW).2.2.2, by rw [← HVP.out]; exact (HC1.out W hW p hlp).2, by rw [hx]; exact HX.out W hW c hlc, (HQB.out W hW).2.2.2, by rw [← HUQ.out]; exact (HC2.out W hW q hlq).2, by rw [hy]; exact HY.out W hW c hlc⟩)
                clear hx hy hP hk
                go_upto_region 13 with fail
                go_region_held3 (fun w' => w'.cell? ⟨bp, 3, none⟩ = some (.slice (some ⟨bb, ob, none⟩) n1 cb) ∧ w'.cell? ⟨bb, ob + p, none⟩ = some (.slice (some ⟨br, or', none⟩) wd cr) ∧ w'.cell? ⟨br, or' + c, none⟩ = some (.int .i64 (x : Nat)) ∧ w'.cell? ⟨bq, 3, none⟩ = some (.slice (some ⟨bd, od, none⟩) n2 cd) ∧ w'.cell? ⟨bd, od + q, none⟩ = some (.slice (some ⟨bs, os, none⟩) wd cs) ∧ w'.cell? ⟨bs, os + c, none⟩ = some (.int .i64 (y : Nat)))
                  (first | go_keep | exact HS6.out _ (Kp.base HK6.out))
                  ((refine step_push (by rfl) _ _ 44 (by rfl) 2 (.int .i64 0) 8 Try.underlying44 info2 (by decide) (by decide) (w.heap.size + 1) (.slice a9 c c9) _ (.int .i64 ((P : Int) + (y : Int))) (Own.get [] _ HDD.out.own) (Kp.size HKD.out) (by rfl) (by rw [tv_length]; omega) (by rfl) _ (by rfl) (by rfl) ?_; intro v6 w6 hp6; obtain ⟨a6, n6, c6, rfl, HN6⟩ := hp6.lst.shape'; have HE6 := Lib.hid (HDD.out.pushInt [] [] hp6); have HK6 := Lib.hid (HKD.out.grown hp6.grow (Kp.size HKD.out) (fun x hx => (Own.get [] _ HDD.out.own).ge hx)); clear hp6))
                all_goals
                  go_wp2_with fail
                  go_roundw
                  case rel =>
                    have h6 : n6 = c + 1 := by rw [HN6.out, List.length_append, tv_length]; rfl
                    subst h6
                    have h1 := HE6.out
                    rw [← HPV.out, tv_snoc c PQ] at h1
                    exact ⟨c + 1, _, _, hlc, by go_num, rfl, h1, HK6.out⟩
                  case measure => simp [intOf]; omega
              · obtain rfl : c = wd := by omega
                have HD3 := Lib.hid (show Bld wr (w.heap.size + 1) (w.heap.size + 1) k ((P0 : Int) + st2) va vn [(.slice a9 c c9, (rowPQ l m p q).map (Value.int .i64))] items ((AC.take (p * n2 + q)).map Value.bool) from by
                  rw [HRP.out p q]
                  have h1 := HD2.out
                  rw [HPQ.out] at h1
                  exact h1)
                have ea := (HC1.out _ (Kp.base hk) p hlp).1
                have eb := (HC2.out _ (Kp.base hk) q hlq).1
                have x2 := HD2.out.c2
                have hlZ := HD2.out.lt
                have lba : ba < wr.heap.size := by have := Kp.size hk; omega
                have lbc : bc < wr.heap.size := by have := Kp.size hk; omega
                obtain ⟨a, ha⟩ : ∃ a, a = fa p := ⟨_, rfl⟩
                obtain ⟨b, hb⟩ : ∃ b, b = fb q := ⟨_, rfl⟩
                rw [← ha] at ea
                rw [← hb] at eb
                have HNA := Lib.hid (HAT.out p q hlp hlq)
                rw [← ha, ← hb, HDIF.out] at HNA
                have HALE := Lib.hid (show ((AC.take (p * n2 + q)).map Value.bool).length ≤ 100000000 by rw [List.length_map, List.length_take]; have := HALn.out; omega)
                obtain ⟨aa, na, cna, rfl, -⟩ := HD2.out.acc.shape'
                have HDD := Lib.hid HD3.out.drew
                have HKD := Lib.hid (show Kp w wr.drew from Below.drew HK2.out)
                have HS4 := Lib.hid (show ∀ W, Below w.heap.size w W → W.cell? ⟨bp, 2, none⟩ = some (.slice (some ⟨ba, oa, none⟩) n1 ca) ∧ W.cell? ⟨ba, oa + p, none⟩ = some (.bool a) ∧ W.cell? ⟨bq, 2, none⟩ = some (.slice (some ⟨bc, oc, none⟩) n2 cc) ∧ W.cell? ⟨bc, oc + q, none⟩ = some (.bool b) from fun W hW => ⟨(HPB.out W hW).2.2.1, by rw [ha]; exact (HC1.out W hW p hlp).1, (HQB.out W hW).2.2.1, by rw [hb]; exact (HC2.out W hW q hlq).1⟩)
                clear ha hb hk HD2
                go_upto_region 14 with fail
                go_cut [] (fun wx => ∃ va', Bld wx (w.heap.size + 1) (w.heap.size + 1) k ((P0 : Int) + st2) va' vn [(.slice a9 c c9, (rowPQ l m p q).map (Value.int .i64))] items ((AC.take (p * n2 + q)).map Value.bool ++ [.bool (!(a == b))]) ∧ Kp w wx)
                case first =>
-- {fast
                  refine wp_region_held_drew (S := (fun w' => w'.cell? ⟨bp, 2, none⟩ = some (.slice (some ⟨ba, oa, none⟩) n1 ca) ∧ w'.cell? ⟨ba, oa + p, none⟩ = some (.bool a) ∧ w'.cell? ⟨bq, 2, none⟩ = some (.slice (some ⟨bc, oc, none⟩) n2 cc) ∧ w'.cell? ⟨bc, oc + q, none⟩ = some (.bool b))) (by kernel_rfl) ?hS (fun hHeld => ?hR)
                  case hS => (first | exact HS4.out _ (Kp.base HKD.out) | exact HS4.out _ (Kp.base (Below.alloc HKD.out (Kp.size HKD.out) _)) | exact HS4.out _ (Kp.base HKW.out) | exact HS4.out _ (Kp.base HK6.out))
                  refine wpAnyH_take (i := 0) (v := ?v1) rfl (by kernel_rfl) (by kernel_rfl) (by kernel_rfl) (fun _ _ _ h => h) (Or.inl ⟨by rfl, ?y1⟩) (by assumption) ?r1
                  case y1 => (intro W hSw; (try dsimp only at hSw); go_simp; try with_reducible rfl)
                  (try simp only [Act.put, List.setIfInBounds_toArray, List.set_cons_zero, List.set_cons_succ])
                  refine wpAnyH_take (i := 2) (v := ?v2) rfl (by kernel_rfl) (by kernel_rfl) (by kernel_rfl) (fun _ _ _ h => h) (Or.inl ⟨by rfl, ?y2⟩) (by assumption) ?r2
                  case y2 => (intro W hSw; (try dsimp only at hSw); go_simp; try with_reducible rfl)
                  (try simp only [Act.put, List.setIfInBounds_toArray, List.set_cons_zero, List.set_cons_succ])
                  refine wpAnyH_take (i := 3) (v := ?v3) rfl (by kernel_rfl) (by kernel_rfl) (by kernel_rfl) (fun _ _ _ h => h) (Or.inl ⟨by rfl, ?y3⟩) (by assumption) ?r3
                  case y3 => (intro W hSw; (try dsimp only at hSw); go_simp; try with_reducible rfl)
                  (try simp only [Act.put, List.setIfInBounds_toArray, List.set_cons_zero, List.set_cons_succ])
                  refine wpAnyH_take (i := 4) (v := ?v4) rfl (by kernel_rfl) (by kernel_rfl) (by kernel_rfl) (fun _ _ _ h => h) (Or.inl ⟨by rfl, ?y4⟩) (by assumption) ?r4
                  case y4 => (intro W hSw; (try dsimp only at hSw); go_simp; try with_reducible rfl)
                  (try simp only [Act.put, List.setIfInBounds_toArray, List.set_cons_zero, List.set_cons_succ])
                  refine wpAnyH_take (i := 5) (v := ?v5) rfl (by kernel_rfl) (by kernel_rfl) (by kernel_rfl) (fun _ _ _ h => h) (Or.inl ⟨by rfl, ?y5⟩) (by assumption) ?r5
                  case y5 => (intro W hSw; (try dsimp only at hSw); go_simp; try with_reducible rfl)
                  (try simp only [Act.put, List.setIfInBounds_toArray, List.set_cons_zero, List.set_cons_succ])
                  refine wpAnyH_take (i := 6) (v := ?v6) rfl (by kernel_rfl) (by kernel_rfl) (by kernel_rfl) (fun _ _ _ h => h) (Or.inl ⟨by rfl, ?y6⟩) (by assumption) ?r6
                  case y6 => (intro W hSw; (try dsimp only at hSw); go_simp; try with_reducible rfl)
                  (try simp only [Act.put, List.setIfInBounds_toArray, List.set_cons_zero, List.set_cons_succ])
                  refine wpAnyH_take (i := 7) (v := ?v7) rfl (by kernel_rfl) (by kernel_rfl) (by kernel_rfl) (fun _ _ _ h => h) (Or.inl ⟨by rfl, ?y7⟩) (by assumption) ?r7
                  case y7 => (intro W hSw; (try dsimp only at hSw); go_simp; try with_reducible rfl)
                  (try simp only [Act.put, List.setIfInBounds_toArray, List.set_cons_zero, List.set_cons_succ])
                  refine wpAnyH_take (i := 8) (v := ?v8) rfl (by kernel_rfl) (by kernel_rfl) (by kernel_rfl) (fun _ _ _ h => h) (Or.inl ⟨by rfl, ?y8⟩) (by assumption) ?r8
                  case y8 => (intro W hSw; (try dsimp only at hSw); go_simp; try with_reducible rfl)
                  (try simp only [Act.put, List.setIfInBounds_toArray, List.set_cons_zero, List.set_cons_succ])
                  refine wpAnyH_take (i := 9) (v := ?v9) rfl (by kernel_rfl) (by kernel_rfl) (by kernel_rfl) (fun _ _ _ h => h) (Or.inl ⟨by rfl, ?y9⟩) (by assumption) ?r9
                  case y9 => (intro W hSw; (try dsimp only at hSw); go_simp; try with_reducible rfl)
                  (try simp only [Act.put, List.setIfInBounds_toArray, List.set_cons_zero, List.set_cons_succ])
                  refine wpAnyH_take (i := 10) (v := ?v10) rfl (by kernel_rfl) (by kernel_rfl) (by kernel_rfl) (fun _ _ _ h => h) (Or.inl ⟨by rfl, ?y10⟩) (by assumption) ?r10
                  case y10 => (intro W hSw; (try dsimp only at hSw); go_simp; try with_reducible rfl)
                  (try simp only [Act.put, List.setIfInBounds_toArray, List.set_cons_zero, List.set_cons_succ])
                  refine wpAnyH_take (i := 11) (v := ?v11) rfl (by kernel_rfl) (by kernel_rfl) (by kernel_rfl) (fun _ _ _ h => h) (Or.inl ⟨by rfl, ?y11⟩) (by assumption) ?r11
                  case y11 => (intro W hSw; (try dsimp only at hSw); go_simp; try with_reducible rfl)
                  (try simp only [Act.put, List.setIfInBounds_toArray, List.set_cons_zero, List.set_cons_succ])
                  refine wpAnyH_take (i := 12) (v := ?v12) rfl (by kernel_rfl) (by kernel_rfl) (by kernel_rfl) (fun _ _ _ h => h) (Or.inl ⟨by rfl, ?y12⟩) (by assumption) ?r12
                  case y12 => (intro W hSw; (try dsimp only at hSw); go_simp; try with_reducible rfl)
                  (try simp only [Act.put, List.setIfInBounds_toArray, List.set_cons_zero, List.set_cons_succ])
                  refine wpAnyH_take (i := 13) (v := ?v13) rfl (by kernel_rfl) (by kernel_rfl) (by kernel_rfl) (fun _ _ _ h => h) (Or.inl ⟨by rfl, ?y13⟩) (by assumption) ?r13
                  case y13 => (intro W hSw; (try dsimp only at hSw); go_simp; try with_reducible rfl)
                  (try simp only [Act.put, List.setIfInBounds_toArray, List.set_cons_zero, List.set_cons_succ])
                  refine wpAnyH_take (i := 14) (v := ?v14) rfl (by kernel_rfl) (by kernel_rfl) (by kernel_rfl) (fun _ _ _ h => h) (Or.inl ⟨by rfl, ?y14⟩) (by assumption) ?r14
                  case y14 => (intro W hSw; (try dsimp only at hSw); go_simp; try with_reducible rfl)
                  (try simp only [Act.put, List.setIfInBounds_toArray, List.set_cons_zero, List.set_cons_succ])
                  refine wpAnyH_take (i := 15) (v := ?v15) rfl (by kernel_rfl) (by kernel_rfl) (by kernel_rfl) (fun _ _ _ h => h) (Or.inl ⟨by rfl, ?y15⟩) (by assumption) ?r15
                  case y15 => (intro W hSw; (try dsimp only at hSw); go_simp; try with_reducible rfl)
                  (try simp only [Act.put, List.setIfInBounds_toArray, List.set_cons_zero, List.set_cons_succ])
                  refine wpAnyH_take (i := 16) (v := ?v16) rfl (by kernel_rfl) (by kernel_rfl) (by kernel_rfl) (fun _ _ _ h => h) (Or.inl ⟨by rfl, ?y16⟩) (by assumption) ?r16
                  case y16 => (intro W hSw; (try dsimp only at hSw); go_simp; try with_reducible rfl)
                  (try simp only [Act.put, List.setIfInBounds_toArray, List.set_cons_zero, List.set_cons_succ])
                  refine wpAnyH_ready (rs := [1, 17]) (by kernel_rfl) (by simp) ?_
                  refine AllReadyH.cons rfl (fun K hK => ?_) (AllReadyH.cons rfl (fun K hK => ?_) AllReadyH.nil)
                  · go_simp
                    refine hK.out _ _ (by (first | exact HS4.out _ (Kp.base HKD.out) | exact HS4.out _ (Kp.base (Below.alloc HKD.out (Kp.size HKD.out) _)) | exact HS4.out _ (Kp.base HKW.out) | exact HS4.out _ (Kp.base HK6.out))) (fun hHeld => ?_)
                    clear hK K
                    (try simp only [Act.put, List.setIfInBounds_toArray, List.set_cons_zero, List.set_cons_succ])
                    refine wpAnyH_ready (rs := [17]) (by kernel_rfl) (by simp) ?_
                    refine AllReadyH.cons rfl (fun K hK => ?_) AllReadyH.nil
                    · go_simp
                      refine hK.out _ _ (by (first | exact HS4.out _ (Kp.base HKD.out) | exact HS4.out _ (Kp.base (Below.alloc HKD.out (Kp.size HKD.out) _)) | exact HS4.out _ (Kp.base HKW.out) | exact HS4.out _ (Kp.base HK6.out))) (fun hHeld => ?_)
                      clear hK K
                      (try simp only [Act.put, List.setIfInBounds_toArray, List.set_cons_zero, List.set_cons_succ])
                      refine wpAnyH_ready (rs := [18]) (by kernel_rfl) (by simp) ?_
                      refine AllReadyH.cons rfl (fun K hK => ?_) AllReadyH.nil
                      · (refine step_push (by rfl) _ _ 22 (by rfl) 4 (.bool false) 1 Try.underlying22 info4 (by decide) (by decide) (w.heap.size + 1) (.slice aa na cna) _ (.bool (!(a == b))) HDD.out.acc (Kp.size HKD.out) (by rfl) HALE.out (by rfl) _ (by rfl) (by rfl) ?_; intro v6 w6 hp6; obtain ⟨a6, n6, c6, rfl, -⟩ := hp6.lst.shape'; have o6 := HDD.out.obAcc hp6; have q6 := (cells_get o6 2); have z6 := cells_free o6 2; have hl6 := (lt_of_block o6); have HE6 := Lib.hid (HDD.out.pushAcc hp6); have HKW := Lib.hid (show Kp w w6 from HKD.out.grown hp6.grow (Kp.size HKD.out) (fun x hx => HDD.out.acc.ge hx)); have HK6 := Lib.hid (show Kp w (w6.setCell ⟨w.heap.size + 1, 2, none⟩ (.slice a6 n6 c6)) from (HKD.out.grown hp6.grow (Kp.size HKD.out) (fun x hx => HDD.out.acc.ge hx)).setCell (p := ⟨w.heap.size + 1, 2, none⟩) (Nat.le_refl _) _); simp at q6; clear hp6 o6)
                        refine hK.out _ _ (by (first | exact HS4.out _ (Kp.base HKD.out) | exact HS4.out _ (Kp.base (Below.alloc HKD.out (Kp.size HKD.out) _)) | exact HS4.out _ (Kp.base HKW.out) | exact HS4.out _ (Kp.base HK6.out))) (fun hHeld => ?_)
                        clear hK K
                        (try simp only [Act.put, List.setIfInBounds_toArray, List.set_cons_zero, List.set_cons_succ])
                        refine wpAnyH_take (i := 19) (v := ?v17) rfl (by kernel_rfl) (by kernel_rfl) (by kernel_rfl) (fun _ _ _ h => h) (Or.inl ⟨by rfl, ?y17⟩) (by assumption) ?r17
                        case y17 => (intro W hSw; (try dsimp only at hSw); go_simp; try with_reducible rfl)
                        (try simp only [Act.put, List.setIfInBounds_toArray, List.set_cons_zero, List.set_cons_succ])
                        refine wpAnyH_ready (rs := [20]) (by kernel_rfl) (by simp) ?_
                        refine AllReadyH.cons rfl (fun K hK => ?_) AllReadyH.nil
                        · go_simp
                          refine hK.out _ _ (by (first | exact HS4.out _ (Kp.base HKD.out) | exact HS4.out _ (Kp.base (Below.alloc HKD.out (Kp.size HKD.out) _)) | exact HS4.out _ (Kp.base HKW.out) | exact HS4.out _ (Kp.base HK6.out))) (fun hHeld => ?_)
                          clear hK K
                          (try simp only [Act.put, List.setIfInBounds_toArray, List.set_cons_zero, List.set_cons_succ])
                          refine wpAnyH_done (by kernel_rfl) ?_ _
                          go_wp2_with fail
                          go_meet
                          exact ⟨_, HE6.out, HK6.out⟩
                  · go_simp
                    refine hK.out _ _ (by (first | exact HS4.out _ (Kp.base HKD.out) | exact HS4.out _ (Kp.base (Below.alloc HKD.out (Kp.size HKD.out) _)) | exact HS4.out _ (Kp.base HKW.out) | exact HS4.out _ (Kp.base HK6.out))) (fun hHeld => ?_)
                    clear hK K
                    (try simp only [Act.put, List.setIfInBounds_toArray, List.set_cons_zero, List.set_cons_succ])
                    refine wpAnyH_ready (rs := [1]) (by kernel_rfl) (by simp) ?_
                    refine AllReadyH.cons rfl (fun K hK => ?_) AllReadyH.nil
                    · go_simp
                      refine hK.out _ _ (by (first | exact HS4.out _ (Kp.base HKD.out) | exact HS4.out _ (Kp.base (Below.alloc HKD.out (Kp.size HKD.out) _)) | exact HS4.out _ (Kp.base HKW.out) | exact HS4.out _ (Kp.base HK6.out))) (fun hHeld => ?_)
                      clear hK K
                      (try simp only [Act.put, List.setIfInBounds_toArray, List.set_cons_zero, List.set_cons_succ])
                      refine wpAnyH_ready (rs := [18]) (by kernel_rfl) (by simp) ?_
                      refine AllReadyH.cons rfl (fun K hK => ?_) AllReadyH.nil
                      · (refine step_push (by rfl) _ _ 22 (by rfl) 4 (.bool false) 1 Try.underlying22 info4 (by decide) (by decide) (w.heap.size + 1) (.slice aa na cna) _ (.bool (!(a == b))) HDD.out.acc (Kp.size HKD.out) (by rfl) HALE.out (by rfl) _ (by rfl) (by rfl) ?_; intro v6 w6 hp6; obtain ⟨a6, n6, c6, rfl, -⟩ := hp6.lst.shape'; have o6 := HDD.out.obAcc hp6; have q6 := (cells_get o6 2); have z6 := cells_free o6 2; have hl6 := (lt_of_block o6); have HE6 := Lib.hid (HDD.out.pushAcc hp6); have HKW := Lib.hid (show Kp w w6 from HKD.out.grown hp6.grow (Kp.size HKD.out) (fun x hx => HDD.out.acc.ge hx)); have HK6 := Lib.hid (show Kp w (w6.setCell ⟨w.heap.size + 1, 2, none⟩ (.slice a6 n6 c6)) from (HKD.out.grown hp6.grow (Kp.size HKD.out) (fun x hx => HDD.out.acc.ge hx)).setCell (p := ⟨w.heap.size + 1, 2, none⟩) (Nat.le_refl _) _); simp at q6; clear hp6 o6)
                        refine hK.out _ _ (by (first | exact HS4.out _ (Kp.base HKD.out) | exact HS4.out _ (Kp.base (Below.alloc HKD.out (Kp.size HKD.out) _)) | exact HS4.out _ (Kp.base HKW.out) | exact HS4.out _ (Kp.base HK6.out))) (fun hHeld => ?_)
                        clear hK K
                        (try simp only [Act.put, List.setIfInBounds_toArray, List.set_cons_zero, List.set_cons_succ])
                        refine wpAnyH_take (i := 19) (v := ?v18) rfl (by kernel_rfl) (by kernel_rfl) (by kernel_rfl) (fun _ _ _ h => h) (Or.inl ⟨by rfl, ?y18⟩) (by assumption) ?r18
                        case y18 => (intro W hSw; (try dsimp only at hSw); go_simp; try with_reducible rfl)
                        (try simp only [Act.put, List.setIfInBounds_toArray, List.set_cons_zero, List.set_cons_succ])
                        refine wpAnyH_ready (rs := [20]) (by kernel_rfl) (by simp) ?_
                        refine AllReadyH.cons rfl (fun K hK => ?_) AllReadyH.nil
                        · go_simp
                          refine hK.out _ _ (by (first | exact HS4.out _ (Kp.base HKD.out) | exact HS4.out _ (Kp.base (Below.alloc HKD.out (Kp.size HKD.out) _)) | exact HS4.out _ (Kp.base HKW.out) | exact HS4.out _ (Kp.base HK6.out))) (fun hHeld => ?_)
                          clear hK K
                          (try simp only [Act.put, List.setIfInBounds_toArray, List.set_cons_zero, List.set_cons_succ])
                          refine wpAnyH_done (by kernel_rfl) ?_ _
                          go_wp2_with fail
                          go_meet
                          exact ⟨_, HE6.out, HK6.out⟩
-- }fast
                case rest =>
                  obtain ⟨va6, h1, h2⟩ := hcut
                  have HE := Lib.hid h1
                  have HKE := Lib.hid h2
                  have hc3 := h1.c3
                  have hlZ3 := h1.lt
                  have hz3 := cells_free h1.at_ 3
                  have HIL := Lib.hid (show (items.map Prod.fst).length ≤ 100000000 by
                    have := congrArg List.length HI.out
                    rw [List.length_map, List.length_map, List.length_take] at this
                    have h9 := HNLn.out
                    rw [List.length_map, this]; omega)
                  obtain ⟨an, nn, cn, rfl, -⟩ := h1.nxt.shape'
                  have HNB := Lib.hid (HNT.out p q hlp hlq)
                  clear h1 h2 ea eb x2 b0 b1 b2 b3 e0 e1 e2 e3 cV cU
                  go_wp2_with (at_builtin; refine wpList_push rfl _ _ 23 rfl 44 (.slice none 0 0) 24 Try.underlying23 info54 (by decide) (by decide) (w.heap.size + 1) (.slice an nn cn) _ (.slice a9 c c9) HE.out.nxt (Kp.size HKE.out) rfl HIL.out rfl _ rfl rfl ?_; intro v5 w5 hp5; obtain ⟨a5, n5, cp5, rfl, -⟩ := hp5.lst.shape'; have o5 := HE.out.obNext hp5; have q5 := (cells_get o5 3); have z5 := cells_free o5 3; have hl5 := (lt_of_block o5); have HE5 := Lib.hid (HE.out.pushNext [] [] hp5); have HK5 := Lib.hid ((HKE.out.grown hp5.grow (Kp.size HKE.out) (fun x hx => HE.out.nxt.ge hx)).setCell (p := ⟨w.heap.size + 1, 3, none⟩) (Nat.le_refl _) (.slice a5 n5 cp5)); simp at q5; clear hp5 o5)
                  go_roundw
                  case rel =>
                    refine ⟨q + 1, va6, .slice a5 n5 cp5, items ++ [(.slice a9 c c9, (rowPQ l m p q).map (Value.int .i64))], hlq, by go_num, ?_, ?_, HK5.out⟩
                    · have h1 := HE5.out
                      rw [List.nil_append] at h1
                      rw [show p * n2 + (q + 1) = p * n2 + q + 1 from rfl, HNA.out, List.map_append]
                      exact h1
                    · rw [List.map_append, HI.out, show p * n2 + (q + 1) = p * n2 + q + 1 from rfl, HNB.out, List.map_append]
                      rfl
                  case measure => simp [intOf]; omega
          · obtain rfl : q = n2 := by omega
            have HNEXT := Lib.hid (show (p + 1) * q = p * q + q from Nat.succ_mul p q)
            clear hk
            go_wp2_with fail
            go_roundw
            case rel => exact ⟨p + 1, _, _, _, hlp, by go_num, by rw [HNEXT.out]; exact HD.out, by rw [HNEXT.out]; exact HI.out, HK.out⟩
            case measure => simp [intOf]; omega
      · obtain rfl : p = n1 := by omega
        have HBU := Lib.hid (show Built wr (w.heap.size + 1) va vn AC NX from Built.of_bld HD.out (by rw [HALL.out]) (by rw [HI.out, HNLL.out]))
        have hat := HD.out.at_
        have hZl := HD.out.lt
        obtain ⟨aa, na, cna, rfl, -⟩ := HD.out.acc.shape'
        obtain ⟨an, nn, cnn, rfl, -⟩ := HD.out.nxt.shape'
        have d0 := cells_get hat 0
        have d1 := cells_get hat 1
        have d2 := cells_get hat 2
        have d3 := cells_get hat 3
        simp at d0 d1 d2 d3
        have hres := Kp.res hk
        have r0 := cells_get hres 0
        have r1 := cells_get hres 1
        have r2 := cells_get hres 2
        have r3 := cells_get hres 3
        have f0 := cells_free hres 0
        have f1 := cells_free hres 1
        have f2 := cells_free hres 2
        have f3 := cells_free hres 3
        have hlS := lt_of_block hres
        have p0 := cells_set hres 0 (.int .i64 k)
        have p1 := cells_set p0 1 (.int .i64 ((P0 : Int) + st2))
        have p2 := cells_set p1 2 (.slice aa na cna)
        have p3 := cells_set p2 3 (.slice an nn cnn)
        simp at r0 r1 r2 r3 p3
        have g0 := cells_get p3 0
        have g1 := cells_get p3 1
        have g2 := cells_get p3 2
        have g3 := cells_get p3 3
        simp at g0 g1 g2 g3
        have HG := Lib.hid (And.intro g0 (And.intro g1 (And.intro g2 g3)))
        have HBS := Lib.hid (Kp.base hk)
        clear p0 p1 p2 p3 g0 g1 g2 g3 hres hat hk
        go_wp2_with fail
        obtain ⟨g0, g1, g2, g3⟩ := HG.out
        refine bodyPost_ret (v := .agg #[.int .i64 k, .int .i64 ((P0 : Int) + st2), .slice aa na cna, .slice an nn cnn]) (by simp [results, Try.results132, go_sem, g0, g1, g2, g3]) rfl ⟨.slice aa na cna, .slice an nn cnn, by rw [HKP.out, HSP.out], ?_, ?_⟩
        · exact (((((HBU.out.setLow (a := ⟨w.heap.size, 0, none⟩) (Nat.lt_succ_self _) _).setLow (a := ⟨w.heap.size, 1, none⟩) (Nat.lt_succ_self _) _).setLow (a := ⟨w.heap.size, 2, none⟩) (Nat.lt_succ_self _) _).setLow (a := ⟨w.heap.size, 3, none⟩) (Nat.lt_succ_self _) _).mono (Nat.le_succ _))
        · exact ((((HBS.out.setCell (p := ⟨w.heap.size, 0, none⟩) (Nat.le_refl _) _).setCell (p := ⟨w.heap.size, 1, none⟩) (Nat.le_refl _) _).setCell (p := ⟨w.heap.size, 2, none⟩) (Nat.le_refl _) _).setCell (p := ⟨w.heap.size, 3, none⟩) (Nat.le_refl _) _)
end Go.Proofs.Ytaebeglcoghehaa.DifferB
