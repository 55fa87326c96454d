
/- What the program's OppositeRelation answers: a relation in memory of its own, and a code.
   Conditions: the relation is read as XRel's text says; the type's handle lies where errors.As reads it. -/
import Derived.Test.YtcpcbmappcndcaaDoorFX18
import Derived.Test.YtcpcbmappcndcaaDoorFX24
import Derived.Test.YtcpcbmappcndcaaDoorFX21
import Derived.Test.YtcpcbmappcndcaaDoorRows
import Derived.Test.YtcpcbmappcndcaaDoorFX9
import Derived.WalkKit
import Derived.ProofKit
import Derived.Lib.Hide
namespace Go.Proofs.YtcpcbmappcndcaaDoor.OppImpl
set_option linter.unusedVariables false
set_option linter.unusedSimpArgs false
set_option maxRecDepth 100000
open Go.RowKit Mem Copy Rel Valid Heap Columns Bld TidyAuto TidyRight SpecRight ToL SpecTidyRel ImplRight ImplTidied CloneB ErrAs ErrCode

/-- The automaton that takes what another one does not. -/
def flipL (l : L) : L := { l with acc := l.acc.map fun b => !b }
def flipR (r : R) : R := { r with accept := r.accept.map fun b => !b }
theorem flipL_ok {l : L} (h : l.Ok) : (flipL l).Ok := by
  have e : (flipL l).acc.length = l.acc.length := by simp [flipL]
  exact ⟨h.k0, h.k3, by rw [e]; exact h.st, by rw [e]; exact h.len, fun s hs => h.row s (by rw [e] at hs; exact hs), fun s hs c hc => by rw [e] at hs ⊢; exact h.lt s hs c hc⟩
theorem flip_rel {r : R} (h : relOf (toL r) = r) : relOf (flipL (toL r)) = flipR r := by
  unfold flipR
  conv => rhs; rw [← h]
  rfl

/-- Truth values by a rule. -/
def bvF (n : Nat) (f : Nat → Bool) : List Value := (List.range n).map fun i => Value.bool (f i)
theorem bvF_length (n : Nat) (f : Nat → Bool) : (bvF n f).length = n := by simp [bvF]
theorem bvF_set (n : Nat) (f : Nat → Bool) (k : Nat) (x : Bool) : (bvF n f).set k (.bool x) = bvF n fun i => if i = k then x else f i := by
  apply List.ext_getElem
  · simp [bvF]
  · intro i h1 h2
    simp [bvF, List.getElem_set]
    by_cases e : k = i
    · simp [e]
    · simp [e, Ne.symm e]
theorem bvF_congr {n : Nat} {f g : Nat → Bool} (h : ∀ i, i < n → f i = g i) : bvF n f = bvF n g :=
  List.map_congr_left fun i hi => by rw [h i (List.mem_range.1 hi)]
theorem bvF_list (xs : List Bool) : xs.map Value.bool = bvF xs.length fun i => xs.getD i false := by
  apply List.ext_getElem
  · simp [bvF]
  · intro i h1 h2
    have h3 : i < xs.length := by simpa using h1
    simp [bvF, List.getD, h3]
theorem bvF_flip (xs : List Bool) : bvF xs.length (fun i => !xs.getD i false) = (xs.map fun b => !b).map Value.bool := by
  apply List.ext_getElem
  · simp [bvF]
  · intro i h1 h2
    have h3 : i < xs.length := by simpa [bvF] using h1
    simp [bvF, List.getD, h3]

/-- An outcome: the relation, or nothing and the code of a limit. -/
theorem outcomeI (Q : Bool) (K : Int) (aa ab : Option Addr) (na ca nb cb : Nat) (n : Int) (w : World) (hg : Laid w) (B : Nat) (A : List Bool) (N : List (List Int)) (hbu : Built w B (.slice aa na ca) (.slice ab nb cb) A N) (h0 : Q = false → K = 0 ∧ A = [] ∧ N = []) :
    Calls Tryd.prog 32 #[.agg #[.int .i64 K, .int .i64 0, .slice aa na ca, .slice ab nb cb], errV Q n] w fun e w' => ∃ va vn, e = .returned (.tuple #[.agg #[.int .i64 K, .int .i64 0, va, vn], .int .i64 (if Q = true then 0 else 3)]) ∧ Built w' B va vn A N ∧ Below w.heap.size w w' := by
  cases Q with
  | true => exact (outcome_ok K aa ab na ca nb cb w).mono fun e w' ⟨he, hb⟩ => ⟨_, _, he, hbu.below hb, hb⟩
  | false =>
    obtain ⟨rfl, rfl, rfl⟩ := h0 rfl
    exact (outcome_no 0 aa ab na ca nb cb w n hg).mono fun e w' ⟨he, hb⟩ => ⟨_, _, he, ImplTidied.built_none _ _, hb⟩

def oppC (r : R) : Int := if okB r = true then (if fewB (flipL (toL r)) 150 = true then 0 else 3) else 1
def oppK (r : R) : Int := if okB r = true then fewK (flipL (toL r)) 150 else 0
def oppA (r : R) : List Bool := if okB r = true then fewA (flipL (toL r)) 150 else []
def oppN (r : R) : List (List Int) := if okB r = true then fewN (flipL (toL r)) 150 else []
theorem opp_of {r : R} (h : okB r = true) : oppK r = fewK (flipL (toL r)) 150 ∧ oppA r = fewA (flipL (toL r)) 150 ∧ oppN r = fewN (flipL (toL r)) 150 ∧ oppC r = if fewB (flipL (toL r)) 150 = true then 0 else 3 :=
  ⟨if_pos h, if_pos h, if_pos h, if_pos h⟩

end Go.Proofs.YtcpcbmappcndcaaDoor.OppImpl
/- What the two functions that look at a word answer, the program's and the model's.
   Conditions: the text is no longer than a Go text can be. -/
namespace Go.Proofs.YtcpcbmappcndcaaDoor.Word
open Go.RowKit WordMath

set_option maxHeartbeats 400000 in
theorem specWord (s : ByteArray) (w : World) (hs : s.size ≤ maxLen) :
    Calls Tryd.prog 20 #[.string s] w fun e w' => e = .returned (.bool (wordB s)) ∧ w = w' := by
  unfold maxLen at hs
  go_enter Tryd.func20, Tryd.ntmps20
  go_wp2
  go_loop [3] (fun i => ∃ k : Nat, k ≤ s.size ∧ i = .int .i64 k ∧ good (s.data.toList.take k) = true) (fun i => s.size - (intOf i).toNat)
  case atStart => exact ⟨0, Nat.zero_le _, rfl, rfl⟩
  case round =>
    obtain ⟨k, hk, rfl, hg⟩ := hrel
    have HG := Lib.hid hg
    clear hg
    by_cases hlt : k < s.size
    · by_cases ha : (s[k].toNat : Int) = 97
      · have HY := Lib.hid (good_yes s k hlt HG.out (letter_a _ ha))
        go_wp2
        go_round
        case rel => exact ⟨k + 1, by omega, by go_num, HY.out⟩
        case measure => simp [intOf]; omega
      · by_cases hb : (s[k].toNat : Int) = 98
        · have HY := Lib.hid (good_yes s k hlt HG.out (letter_b _ hb))
          go_wp2
          go_round
          case rel => exact ⟨k + 1, by omega, by go_num, HY.out⟩
          case measure => simp [intOf]; omega
        · have HN := Lib.hid (word_no s k hlt (letter_no _ ha hb))
          have h1 : ((s[k].toNat : Int) != 97) = true := by rw [bne_iff_ne]; exact ha
          have h2 : ((s[k].toNat : Int) != 98) = true := by rw [bne_iff_ne]; exact hb
          go_wp2
          go_ret
          exact ⟨by rw [HN.out]; rfl, rfl⟩
    · obtain rfl : k = s.size := by omega
      have HE := Lib.hid (word_end s HG.out)
      go_wp2
      go_ret
      exact ⟨by rw [HE.out]; simp; omega, rfl⟩


set_option maxHeartbeats 400000 in
theorem implWord (s : ByteArray) (w : World) (hs : s.size ≤ maxLen) :
    Calls Tryd.prog 30 #[.string s] w fun e w' => e = .returned (.bool (wordB s)) ∧ w = w' := by
  unfold maxLen at hs
  by_cases hlen : 40 < s.size
  · have HL := Lib.hid (word_long s hlen)
    go_enter Tryd.func30, Tryd.ntmps30
    go_wp2
    go_ret
    exact ⟨by rw [HL.out]; rfl, rfl⟩
  · go_enter Tryd.func30, Tryd.ntmps30
    go_wp2
    go_loop [9] (fun i => ∃ k : Nat, k ≤ s.size ∧ i = .int .i64 k ∧ good (s.data.toList.take k) = true) (fun i => s.size - (intOf i).toNat)
    case atStart => exact ⟨0, Nat.zero_le _, rfl, rfl⟩
    case round =>
      obtain ⟨k, hk, rfl, hg⟩ := hrel
      have HG := Lib.hid hg
      clear hg
      by_cases hlt : k < s.size
      · by_cases ha : (s[k].toNat : Int) = 97
        · have HY := Lib.hid (good_yes s k hlt HG.out (letter_a _ ha))
          go_wp2
          go_round
          case rel => exact ⟨k + 1, by omega, by go_num, HY.out⟩
          case measure => simp [intOf]; omega
        · by_cases hb : (s[k].toNat : Int) = 98
          · have HY := Lib.hid (good_yes s k hlt HG.out (letter_b _ hb))
            go_wp2
            go_round
            case rel => exact ⟨k + 1, by omega, by go_num, HY.out⟩
            case measure => simp [intOf]; omega
          · have HN := Lib.hid (word_no s k hlt (letter_no _ ha hb))
            have h1 : ((s[k].toNat : Int) != 97) = true := by rw [bne_iff_ne]; exact ha
            have h2 : ((s[k].toNat : Int) != 98) = true := by rw [bne_iff_ne]; exact hb
            go_wp2
            go_ret
            exact ⟨by rw [HN.out]; rfl, rfl⟩
      · obtain rfl : k = s.size := by omega
        have HE := Lib.hid (word_end s HG.out)
        go_wp2
        go_ret
        exact ⟨by rw [HE.out, decide_eq_true (by omega : s.size ≤ 40)]; rfl, rfl⟩

end Go.Proofs.YtcpcbmappcndcaaDoor.Word
/- What the program's FixTape hands back.
   Conditions: the relation is read as XRel's text says; the text is no longer than a Go text can be. -/
namespace Go.Proofs.YtcpcbmappcndcaaDoor.FixFn
set_option linter.unusedVariables false
set_option linter.unusedSimpArgs false
set_option linter.ambiguousOpen false
set_option maxRecDepth 100000
open Go.RowKit Mem Copy Rel Valid Heap Bld Columns TidyRight SpecRight ToL SpecTidyRel ErrCode OppImpl StepI WordMath Word DropI FixedI ImplRight ImplTidied

def fixC0 (r : R) (x : Int) (u : ByteArray) : Int := if okB r = true ∧ wordB u = true then dropC r x else 1
def fixFC (r : R) (x : Int) (u : ByteArray) : Int := if fixC0 r x u = 0 then (if fixB (toL r) x.toNat u = true then 0 else 3) else fixC0 r x u
def fixFK (r : R) (x : Int) (u : ByteArray) : Int := if fixC0 r x u = 0 then fixK (toL r) x.toNat u else 0
def fixFA (r : R) (x : Int) (u : ByteArray) : List Bool := if fixC0 r x u = 0 then fixA (toL r) x.toNat u else []
def fixFN (r : R) (x : Int) (u : ByteArray) : List (List Int) := if fixC0 r x u = 0 then fixN (toL r) x.toNat u else []
theorem fixF_no {r : R} {x : Int} {u : ByteArray} (h : fixC0 r x u ≠ 0) : fixFC r x u = fixC0 r x u ∧ fixFK r x u = 0 ∧ fixFA r x u = [] ∧ fixFN r x u = [] := ⟨if_neg h, if_neg h, if_neg h, if_neg h⟩
theorem fixF_yes {r : R} {x : Int} {u : ByteArray} (h : fixC0 r x u = 0) : fixFC r x u = (if fixB (toL r) x.toNat u = true then 0 else 3) ∧ fixFK r x u = fixK (toL r) x.toNat u ∧ fixFA r x u = fixA (toL r) x.toNat u ∧ fixFN r x u = fixN (toL r) x.toNat u := ⟨if_pos h, if_pos h, if_pos h, if_pos h⟩
theorem fix_word {r : R} {x : Int} {u : ByteArray} (h : fixC0 r x u = 0) : okB r = true ∧ wordB u = true ∧ dropC r x = 0 := by
  unfold fixC0 at h
  by_cases hh : okB r = true ∧ wordB u = true
  · rw [if_pos hh] at h; exact ⟨hh.1, hh.2, h⟩
  · rw [if_neg hh] at h; omega
theorem fix_drop {r : R} {x : Int} {u : ByteArray} (h1 : okB r = true) (h2 : wordB u = true) : fixC0 r x u = dropC r x := if_pos ⟨h1, h2⟩
theorem drop_ok {r : R} {x : Int} (h : okB r = true) (h0 : dropC r x = 0) : 2 ≤ (toL r).k ∧ x.toNat < (toL r).k ∧ x = (x.toNat : Nat) := by
  unfold dropC at h0
  rw [if_pos h] at h0
  have e : (toL r).k = r.tapes.toNat := rfl
  by_cases hh : (0 ≤ x ∧ x < r.tapes) ∧ r.tapes ≠ 1
  · obtain ⟨⟨a, b⟩, c⟩ := hh
    omega
  · rw [if_neg hh] at h0; omega

set_option maxHeartbeats 8000000 in
theorem implFix (v : Value) (r : R) (x : Int) (u : ByteArray) (hu : u.size ≤ maxLen) (w : World) (B : Nat) (h : RelAt w B v r) (hB : B ≤ w.heap.size) (hg : Laid w) :
    Calls Tryd.prog 9 #[v, .int .i64 x, .string u] w fun e w' => ∃ va vn, e = .returned (.tuple #[.agg #[.int .i64 (fixFK r x u), .int .i64 0, va, vn], .int .i64 (fixFC r x u)]) ∧ Built w' w.heap.size va vn (fixFA r x u) (fixFN r x u) ∧ Below w.heap.size w w' := by
  have HV := Lib.hid (fun W (hb : Below w.heap.size w W) => ValidImpl.implValid v r W B (h.below hb hB) (Nat.le_trans hB hb.size))
  have HGL := Lib.hid (fun W (hb : Below w.heap.size w W) => hg.below hb)
  have HWD := Lib.hid (fun W => implWord u W hu)
  have HDR := Lib.hid (fun W (hb : Below w.heap.size w W) => dropI v r x W B (h.below hb hB) (Nat.le_trans hB hb.size))
  have HFX := Lib.hid (fun (h0 : fixC0 r x u = 0) W (hb : Below w.heap.size w W) => (show Calls Tryd.prog 33 #[v, .int .i64 x, .string u] W fun e w' => ∃ va vn, ∃ n : Int, e = .returned (.tuple #[.agg #[.int .i64 (fixFK r x u), .int .i64 0, va, vn], errV (fixB (toL r) x.toNat u) n]) ∧ Built w' W.heap.size va vn (fixFA r x u) (fixFN r x u) ∧ Below W.heap.size W w' from by
    obtain ⟨h1, h2, h3⟩ := fix_word h0
    obtain ⟨k2, kt, ex⟩ := drop_ok h1 h3
    obtain ⟨-, e2, e3, e4⟩ := fixF_yes h0
    rw [e2, e3, e4]
    have hx := fixedI (toL r) (okL h1).1.2 k2 x.toNat kt u h2 (by have := (okL h1).2; omega) v W W.heap.size (by rw [(okL h1).1.1]; exact (h.below hb hB).mono (Nat.le_trans hB hb.size)) (Nat.le_refl _)
    rw [← ex] at hx
    exact hx))
  have HN0 := Lib.hid (fun h0 => fixF_no (r := r) (x := x) (u := u) h0)
  have HC0 := Lib.hid (fun h0 => (fixF_yes (r := r) (x := x) (u := u) h0).1)
  have HF0 := Lib.hid (fun h0 (hq : fixB (toL r) x.toNat u = false) => (show fixFK r x u = 0 ∧ fixFA r x u = [] ∧ fixFN r x u = [] from by
    obtain ⟨-, e2, e3, e4⟩ := fixF_yes (r := r) (x := x) (u := u) h0
    rw [e2, e3, e4]; exact fix_no hq))
  have HD0 := Lib.hid (fun h1 h2 => fix_drop (r := r) (x := x) (u := u) h1 h2)
  have HD1 := Lib.hid (show ¬ (okB r = true ∧ wordB u = true) → fixC0 r x u = 1 from fun h => if_neg h)
  obtain ⟨Q, hQ⟩ : ∃ y, y = fixB (toL r) x.toNat u := ⟨_, rfl⟩
  obtain ⟨C0, hC0⟩ : ∃ y, y = fixC0 r x u := ⟨_, rfl⟩
  obtain ⟨D0, hD0⟩ : ∃ y, y = dropC r x := ⟨_, rfl⟩
  obtain ⟨cC, hcC⟩ : ∃ y, y = fixFC r x u := ⟨_, rfl⟩
  obtain ⟨cK, hcK⟩ : ∃ y, y = fixFK r x u := ⟨_, rfl⟩
  obtain ⟨cA, hcA⟩ : ∃ y, y = fixFA r x u := ⟨_, rfl⟩
  obtain ⟨cN, hcN⟩ : ∃ y, y = fixFN r x u := ⟨_, rfl⟩
  obtain ⟨q, hq⟩ : ∃ y, y = okB r := ⟨_, rfl⟩
  obtain ⟨qw, hqw⟩ : ∃ y, y = wordB u := ⟨_, rfl⟩
  rw [← hC0, ← hcK, ← hcA, ← hcN, ← hQ] at HFX HF0
  rw [← hC0, ← hcC, ← hcK, ← hcA, ← hcN] at HN0
  rw [← hC0, ← hcC, ← hQ] at HC0
  rw [← hq, ← hqw, ← hC0, ← hD0] at HD0
  rw [← hq, ← hqw, ← hC0] at HD1
  rw [← hD0] at HDR
  rw [← hq] at HV
  rw [← hqw] at HWD
  rw [← hcC, ← hcK, ← hcA, ← hcN]
  clear hQ hC0 hD0 hcC hcK hcA hcN hq hqw hg hu
  obtain ⟨va, vn, rfl, ha, hx⟩ := h
  obtain ⟨aa, ba, oa, ca, rfl, -, -, -⟩ := ha
  obtain ⟨-, ⟨ab, bb, ob, cb, rfl, -, -, -⟩, -⟩ := hx
  obtain ⟨k, hk⟩ : ∃ k : Int, k = r.tapes := ⟨_, rfl⟩
  obtain ⟨st, hs⟩ : ∃ st : Int, st = r.start := ⟨_, rfl⟩
  obtain ⟨na, hna⟩ : ∃ na, na = r.accept.length := ⟨_, rfl⟩
  obtain ⟨nb, hnb⟩ : ∃ nb, nb = r.next.length := ⟨_, rfl⟩
  rw [← hk, ← hs, ← hna, ← hnb] at HV HDR HFX
  rw [← hk, ← hs, ← hna, ← hnb]
  have HK0 := Lib.hid (show K0 w #[.int .i64 k, .int .i64 st, .slice aa na ca, .slice ab nb cb] ((w.alloc (.cells #[.int .i64 k, .int .i64 st, .slice aa na ca, .slice ab nb cb] 27)).alloc (.cells #[Value.int .i64 0, .int .i64 0, .slice none 0 0, .slice none 0 0] 27)) from Below.refl _ _)
  have HV1 := Lib.hid (HV.out _ (K0.base HK0.out))
  have HST := Lib.hid (fun W W' (h : K0 w #[.int .i64 k, .int .i64 st, .slice aa na ca, .slice ab nb cb] W) (hb : Below W.heap.size W W') => (show K0 w #[.int .i64 k, .int .i64 st, .slice aa na ca, .slice ab nb cb] W' from Below.trans h (hb.mono (K0.size h))))
  clear hk hs hna hnb HV hB
  go_enter Tryd.func9, Tryd.ntmps9
  go_wp2_with fail
  refine HV1.out.mono ?_
  rintro e w3 ⟨rfl, hb3⟩
  have hk3 : K0 w #[.int .i64 k, .int .i64 st, .slice aa na ca, .slice ab nb cb] w3 := by
    have h1 := hb3
    rw [size_alloc', size_alloc'] at h1
    exact h1
  have HK3 := Lib.hid hk3
  have r0 := cells_get (K0.res hk3) 0
  have r1 := cells_get (K0.res hk3) 1
  have r2 := cells_get (K0.res hk3) 2
  have r3 := cells_get (K0.res hk3) 3
  have f0 := cells_free (K0.res hk3) 0
  have f1 := cells_free (K0.res hk3) 1
  have f2 := cells_free (K0.res hk3) 2
  have f3 := cells_free (K0.res hk3) 3
  have hlS := lt_of_block (K0.res hk3)
  have x0 := cells_get (K0.box hk3) 0
  have x1 := cells_get (K0.box hk3) 1
  have x2 := cells_get (K0.box hk3) 2
  have x3 := cells_get (K0.box hk3) 3
  simp at r0 r1 r2 r3 x0 x1 x2 x3
  clear hb3 hk3 HV1 HK0
  cases q with
  | false =>
    have e1 := HD1.out (fun h => by cases h.1)
    subst e1
    obtain ⟨rfl, rfl, rfl, rfl⟩ := HN0.out (by decide)
    clear HN0 HC0 HF0 HD0 HD1 HFX HDR HWD HGL
    go_wp2_with fail
    obtain ⟨g0, g1, g2, g3⟩ := res4 (a := .int .i64 0) (b := .int .i64 0) (c := .slice none 0 0) (d := .slice none 0 0) (K0.res HK3.out)
    refine bodyPost_ret (v := .tuple #[.agg #[.int .i64 0, .int .i64 0, .slice none 0 0, .slice none 0 0], .int .i64 1]) (by simp [results, Tryd.results9, go_sem, g0, g1, g2, g3]) rfl ⟨.slice none 0 0, .slice none 0 0, rfl, ImplTidied.built_none _ _, ?_⟩
    exact set4_below (K0.base HK3.out) (Nat.le_succ _)
  | true =>
    have HWW := Lib.hid (HWD.out w3)
    cases qw with
    | false =>
      have e1 := HD1.out (fun h => by cases h.2)
      subst e1
      obtain ⟨rfl, rfl, rfl, rfl⟩ := HN0.out (by decide)
      clear HN0 HC0 HF0 HD0 HD1 HFX HDR HWD HGL
      go_wp2_with (go_at_call 30; refine HWW.out.mono ?_; rintro e w' ⟨rfl, rfl⟩)
      obtain ⟨g0, g1, g2, g3⟩ := res4 (a := .int .i64 0) (b := .int .i64 0) (c := .slice none 0 0) (d := .slice none 0 0) (K0.res HK3.out)
      refine bodyPost_ret (v := .tuple #[.agg #[.int .i64 0, .int .i64 0, .slice none 0 0, .slice none 0 0], .int .i64 1]) (by simp [results, Tryd.results9, go_sem, g0, g1, g2, g3]) rfl ⟨.slice none 0 0, .slice none 0 0, rfl, ImplTidied.built_none _ _, ?_⟩
      exact set4_below (K0.base HK3.out) (Nat.le_succ _)
    | true =>
      have e1 := HD0.out rfl rfl
      subst e1
      have HDD := Lib.hid (HDR.out w3 (K0.base HK3.out))
      clear HD0 HD1 HDR HWD
      by_cases h0 : C0 = 0
      · have HC := Lib.hid (HC0.out h0)
        have HX1 := Lib.hid (HFX.out h0)
        have HX0 := Lib.hid (HF0.out h0)
        subst h0
        clear HN0 HC0 HF0 HFX
        go_wp2_with (first
          | (go_at_call 30; refine HWW.out.mono ?_; rintro e w' ⟨rfl, rfl⟩)
          | (go_at_call 31; refine HDD.out.mono ?_; rintro e w4 ⟨rfl, hb4⟩; have HK4 := Lib.hid (HST.out _ _ HK3.out hb4); clear hb4 r0 r1 r2 r3 f0 f1 f2 f3 hlS x0 x1 x2 x3; have x0 := cells_get (K0.box HK4.out) 0; have x1 := cells_get (K0.box HK4.out) 1; have x2 := cells_get (K0.box HK4.out) 2; have x3 := cells_get (K0.box HK4.out) 3; have hl4 := lt_of_block (K0.box HK4.out); simp at x0 x1 x2 x3)
          | (go_at_call 33; refine (HX1.out _ (K0.base HK4.out)).mono ?_; rintro e w5 ⟨va, vn, n5, rfl, hbu, hb5⟩; have HK5 := Lib.hid (HST.out _ _ HK4.out hb5); have HB5 := Lib.hid (hbu.mono (K0.size HK4.out)); obtain ⟨a4, n4, c4, rfl, -⟩ := hbu.acc.shape'; obtain ⟨items4, -, hnx4, -⟩ := hbu.rows; obtain ⟨b4, m4, d4, rfl, -⟩ := hnx4.shape'; have HO := Lib.hid (outcomeI Q cK a4 b4 n4 c4 m4 d4 n5 w5 (HGL.out _ (K0.base HK5.out)) (w.heap.size + 2) cA cN HB5.out HX0.out); rw [← HC.out] at HO; clear hbu hb5 hnx4 x0 x1 x2 x3 hl4)
          | (go_at_call 32; refine HO.out.mono ?_; rintro e w6 ⟨va, vn, rfl, hbu, hb6⟩; have HBU := Lib.hid hbu; obtain ⟨a5, n5', c5, rfl, -⟩ := hbu.acc.shape'; obtain ⟨items5, -, hnx5, -⟩ := hbu.rows; obtain ⟨b5, m5, d5, rfl, -⟩ := hnx5.shape'; have HK6 := Lib.hid (HST.out _ _ HK5.out hb6); have r0 := cells_get (K0.res HK6.out) 0; have r1 := cells_get (K0.res HK6.out) 1; have r2 := cells_get (K0.res HK6.out) 2; have r3 := cells_get (K0.res HK6.out) 3; have f0 := cells_free (K0.res HK6.out) 0; have f1 := cells_free (K0.res HK6.out) 1; have f2 := cells_free (K0.res HK6.out) 2; have f3 := cells_free (K0.res HK6.out) 3; have hlS := lt_of_block (K0.res HK6.out); simp at r0 r1 r2 r3; clear hbu hb6 hnx5 HO))
        obtain ⟨g0, g1, g2, g3⟩ := res4 (a := .int .i64 cK) (b := .int .i64 0) (c := .slice a5 n5' c5) (d := .slice b5 m5 d5) (K0.res HK6.out)
        refine bodyPost_ret (v := .tuple #[.agg #[.int .i64 cK, .int .i64 0, .slice a5 n5' c5, .slice b5 m5 d5], .int .i64 cC]) (by simp [results, Tryd.results9, go_sem, g0, g1, g2, g3]) rfl ⟨.slice a5 n5' c5, .slice b5 m5 d5, rfl, ?_, ?_⟩
        · exact (set4_built HBU.out (by omega)).mono (by omega)
        · exact set4_below (K0.base HK6.out) (Nat.le_succ _)
      · obtain ⟨rfl, rfl, rfl, rfl⟩ := HN0.out h0
        have hcne : (cC != 0) = true := by simpa using h0
        clear HN0 HC0 HF0 HFX HGL
        go_wp2_with (first
          | (go_at_call 30; refine HWW.out.mono ?_; rintro e w' ⟨rfl, rfl⟩)
          | (go_at_call 31; refine HDD.out.mono ?_; rintro e w4 ⟨rfl, hb4⟩; have HK4 := Lib.hid (HST.out _ _ HK3.out hb4); clear hb4 r0 r1 r2 r3 f0 f1 f2 f3 hlS x0 x1 x2 x3; have r0 := cells_get (K0.res HK4.out) 0; have r1 := cells_get (K0.res HK4.out) 1; have r2 := cells_get (K0.res HK4.out) 2; have r3 := cells_get (K0.res HK4.out) 3; have f0 := cells_free (K0.res HK4.out) 0; have f1 := cells_free (K0.res HK4.out) 1; have f2 := cells_free (K0.res HK4.out) 2; have f3 := cells_free (K0.res HK4.out) 3; have hlS := lt_of_block (K0.res HK4.out); simp at r0 r1 r2 r3))
        obtain ⟨g0, g1, g2, g3⟩ := res4 (a := .int .i64 0) (b := .int .i64 0) (c := .slice none 0 0) (d := .slice none 0 0) (K0.res HK4.out)
        refine bodyPost_ret (v := .tuple #[.agg #[.int .i64 0, .int .i64 0, .slice none 0 0, .slice none 0 0], .int .i64 cC]) (by simp [results, Tryd.results9, go_sem, g0, g1, g2, g3]) rfl ⟨.slice none 0 0, .slice none 0 0, rfl, ImplTidied.built_none _ _, ?_⟩
        exact set4_below (K0.base HK4.out) (Nat.le_succ _)
end Go.Proofs.YtcpcbmappcndcaaDoor.FixFn
