
/- What the model's functions on classes of states hand back.
   Conditions: the relation's rows have one length, and lead to states; the classes are read as XMem's text says. -/
import Derived.Test.YthebmpdkiocbmaaDoorValid
import Derived.Test.YthebmpdkiocbmaaDoorHeap
import Derived.Test.YthebmpdkiocbmaaDoorTidyAuto
import Derived.Deep.QuietTactic
import Derived.BigQuiet
namespace Go.Proofs.YthebmpdkiocbmaaDoor.SpecFiner
set_option linter.unusedVariables false
set_option linter.unusedSimpArgs false
open Go.RowKit Mem Copy Rel Valid Heap TidyMath TidyClass TidyAuto

/-- A list of numbers below 2^63 as Go has it. -/
def ofN (l : List Nat) : List Int := l.map Int.ofNat
theorem ofN_length (l : List Nat) : (ofN l).length = l.length := by simp [ofN]
theorem ofN_get (l : List Nat) {i : Nat} (h : i < l.length) : (ofN l).getD i 0 = ((l.getD i 0 : Nat) : Int) := by simp [ofN, List.getD, h]
def tabN (n : Nat) (c : Nat → Nat) : List Int := ofN ((List.range n).map c)
theorem tabN_length (n : Nat) (c : Nat → Nat) : (tabN n c).length = n := by simp [tabN, ofN]
theorem tabN_get (n : Nat) (c : Nat → Nat) {i : Nat} (h : i < n) : (tabN n c).getD i 0 = ((c i : Nat) : Int) := by simp [tabN, ofN, List.getD, h]

theorem map_take_succ {α β : Type} (f : α → β) (l : List α) (d : α) (k : Nat) (h : k < l.length) : (l.take (k + 1)).map f = (l.take k).map f ++ [f (l.getD k d)] := by
  rw [take_succ_getD l d k h, List.map_append]; rfl
theorem map_differ {f : Nat → Nat} {l m : List Nat} {k : Nat} (hl : k < l.length) (hm : k < m.length) (h : f (l.getD k 0) ≠ f (m.getD k 0)) : ¬ l.map f = m.map f := by
  intro e
  have := congrArg (fun x => x[k]?) e
  simp [hl, hm] at this
  simp [List.getD, hl, hm] at h
  exact h this

set_option maxHeartbeats 2000000 in
theorem alike (nx : List (List Nat)) (n : Nat) (c : Nat → Nat) (a b : Nat) (bp : Nat) (w : World) (B : Nat) (r : R) (h : RelPtr w B bp r) (hnext : r.next = nx.map ofN) (vc : Value) (hc : Ints w B vc (tabN n c))
    (ha : a < nx.length) (hb : b < nx.length) (hlen : (nx.getD a []).length = (nx.getD b []).length) (hW : (nx.getD a []).length ≤ 26) (hla : ∀ k, k < (nx.getD a []).length → (nx.getD a []).getD k 0 < n) (hlb : ∀ k, k < (nx.getD b []).length → (nx.getD b []).getD k 0 < n) :
    Calls Tryd.prog 100 #[.pointer (some ⟨bp, 0, none⟩), vc, .int .i64 a, .int .i64 b] w fun e w' => e = .returned (.bool (decide ((nx.getD a []).map c = (nx.getD b []).map c))) ∧ ∃ m, w' = w.drewN m := by
  obtain ⟨va, vn, c0, c1, c2, c3, -, ⟨U, ⟨ab, bb, ob, cb, rfl, hmb, hbb, hcb⟩, hU⟩⟩ := h
  rw [hnext] at hmb hbb hcb hU c3
  simp only [List.length_map] at hmb hbb hcb hU c3
  obtain ⟨rfl, -⟩ := hbb (by omega)
  have cA := hcb a ha
  have cB := hcb b hb
  have uA := hU a ha
  have uB := hU b hb
  have eA : (nx.map ofN).getD a [] = ofN (nx.getD a []) := by simp [List.getD, ha]
  have eB : (nx.map ofN).getD b [] = ofN (nx.getD b []) := by simp [List.getD, hb]
  rw [eA] at uA
  rw [eB] at uB
  obtain ⟨xa, hxa⟩ : ∃ xa, xa = nx.getD a [] := ⟨_, rfl⟩
  obtain ⟨xb, hxb⟩ : ∃ xb, xb = nx.getD b [] := ⟨_, rfl⟩
  rw [← hxa, ← hxb] at hlen
  rw [← hxa] at uA hla hW ⊢
  rw [← hxb] at uB hlb ⊢
  obtain ⟨aa, ba, oa, ca, hua, hma, haa, hca⟩ := uA
  obtain ⟨ab', bb', ob', cb', hub, hmb', hbb', hcb'⟩ := uB
  obtain ⟨ac, bc, oc, cc, rfl, hmc, hcc, hcv⟩ := hc
  rw [ofN_length] at hua hma haa hca hub hmb' hbb' hcb'
  rw [tabN_length] at hmc hcc hcv ⊢
  obtain ⟨W, hWW⟩ : ∃ W, W = xa.length := ⟨_, rfl⟩
  rw [← hlen, ← hWW] at hub hmb' hbb' hcb' hlb
  rw [← hWW] at hua hma haa hca hla hW hlen
  rw [hua] at cA
  rw [hub] at cB
  obtain ⟨q, hq⟩ : ∃ q, q = nx.length := ⟨_, rfl⟩
  rw [← hq] at c3 hmb ha hb
  unfold maxLen at hmb hmc
  have HWA := Lib.hid hWW
  have HWB := Lib.hid hlen
  clear hU hcb hua hub eA eB hxa hxb hq hWW hlen hma hmb' c0 c1 c2 hnext hbb
  obtain ⟨R, hR⟩ : ∃ R : Bool, R = decide (xa.map c = xb.map c) := ⟨_, rfl⟩
  rw [← hR]
  have HR := Lib.hid hR
  clear hR
  go_enter Tryd.func100, Tryd.ntmps100
  go_wp2
  go_loopw [9] (fun i wr => ∃ k m : Nat, k ≤ W ∧ i = .int .i64 k ∧ wr = w.drewN m ∧ (xa.take k).map c = (xb.take k).map c) (fun i _ => W - (intOf i).toNat)
  case atStart => exact ⟨0, 0, Nat.zero_le _, rfl, rfl, rfl⟩
  case round =>
    obtain ⟨k, m, hk, rfl, rfl, hg⟩ := hrel
    have HG := Lib.hid hg
    clear hg
    by_cases hlt : k < W
    · obtain rfl := (haa (by omega)).1
      obtain rfl := (hbb' (by omega)).1
      have rA := hca k hlt
      have rB := hcb' k hlt
      have la := hla k hlt
      have lb := hlb k hlt
      have hlA := Lib.hid (show k < xa.length by rw [← HWA.out]; exact hlt)
      have hlB := Lib.hid (show k < xb.length by rw [← HWB.out]; exact hlt)
      rw [ofN_get xa hlA.out] at rA
      rw [ofN_get xb hlB.out] at rB
      have HTA := Lib.hid (map_take_succ c xa 0 k hlA.out)
      have HTB := Lib.hid (map_take_succ c xb 0 k hlB.out)
      have HDF := Lib.hid (map_differ (f := c) hlA.out hlB.out)
      obtain ⟨x, hx⟩ : ∃ x, x = xa.getD k 0 := ⟨_, rfl⟩
      obtain ⟨y, hy⟩ : ∃ y, y = xb.getD k 0 := ⟨_, rfl⟩
      rw [← hx] at rA la HTA HDF
      rw [← hy] at rB lb HTB HDF
      obtain rfl := (hcc (by omega)).1
      have vA := hcv x la
      have vB := hcv y lb
      rw [tabN_get n c la] at vA
      rw [tabN_get n c lb] at vB
      obtain ⟨p, hp⟩ : ∃ p, p = c x := ⟨_, rfl⟩
      obtain ⟨s, hs⟩ : ∃ s, s = c y := ⟨_, rfl⟩
      rw [← hp] at vA HTA HDF
      rw [← hs] at vB HTB HDF
      have dA : w.cell? ⟨bb, ob + a, none⟩ = some (.slice (some ⟨ba, oa, none⟩) W ca) := cA
      clear hx hy hp hs hca hcb' hcv hla hlb haa hbb' hcc
      by_cases hps : p = s
      · subst hps
        have hne : (((p : Nat) : Int) != (p : Int)) = false := by simp
        go_wp2_with fail
        go_quiet (fail)
        go_wp2_with fail
        go_roundw
        case rel => exact ⟨k + 1, _, hlt, by go_num, rfl, by rw [HTA.out, HTB.out, HG.out]⟩
        case measure => simp [intOf]; omega
      · have hne : (((p : Nat) : Int) != (s : Int)) = true := by simp; omega
        have HRF := Lib.hid (show R = false by rw [HR.out]; exact decide_eq_false (HDF.out hps))
        go_wp2_with fail
        go_quiet (fail)
        go_wp2_with fail
        go_ret
        exact ⟨by rw [HRF.out]; rfl, _, World.drewN_drewN _ _ _⟩
    · have HRT := Lib.hid (show R = true by
        have h1 := HG.out
        rw [List.take_of_length_le (by have := HWA.out; omega), List.take_of_length_le (by have := HWA.out; have := HWB.out; omega)] at h1
        rw [HR.out]; exact decide_eq_true h1)
      clear hca hcb' hcv hla hlb haa hbb' hcc
      go_wp2
      go_ret
      exact ⟨by rw [HRT.out]; rfl, _, rfl⟩

/-- What is asked of the relation's rows. -/
def RowsOk (nx : List (List Nat)) (n W : Nat) : Prop := nx.length = n ∧ ∀ s, s < n → (nx.getD s []).length = W ∧ ∀ k, k < W → (nx.getD s []).getD k 0 < n
def auOf (nx : List (List Nat)) (n : Nat) (acc : Nat → Bool) : Au := ⟨n, acc, fun s => nx.getD s []⟩
abbrev key (nx : List (List Nat)) (c : Nat → Nat) (s : Nat) : Nat × List Nat := (c s, (nx.getD s []).map c)

theorem fin_T {k : Nat} {f : Nat → Int} {T : Nat → Int} {o : Int} (hT : ∀ i, T i = if i = k then o else if i = k then -1 else if i < k then f i else 0) (ho : o = f k) (i : Nat) : T i = if i < k + 1 then f i else 0 := by
  rw [hT i]
  by_cases e : i = k
  · subst e; simp [ho]
  · by_cases h : i < k
    · have : i < k + 1 := by omega
      simp [e, h, this]
    · have : ¬ i < k + 1 := by omega
      simp [e, h, this]

end Go.Proofs.YthebmpdkiocbmaaDoor.SpecFiner
