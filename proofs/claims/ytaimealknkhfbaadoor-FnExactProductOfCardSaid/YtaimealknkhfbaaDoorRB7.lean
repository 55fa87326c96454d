
/- What the model's functions on classes of states hand back.
   Conditions: the relation's rows have one length, and lead to states; the classes are read as XMem's text says. -/
import Derived.Test.YtaimealknkhfbaaDoorRB6
import Derived.Test.YtaimealknkhfbaaDoorRB5
import Derived.Test.YtaimealknkhfbaaDoorRB1
import Derived.Deep.QuietTactic
import Derived.BigQuiet
import Derived.Test.YtaimealknkhfbaaDoorRB2
namespace Go.Proofs.YtaimealknkhfbaaDoor.SpecFiner
set_option linter.unusedVariables false
set_option linter.unusedSimpArgs false
open Go.RowKit Mem Copy Rel Valid Heap TidyMath TidyClass TidyAuto

/-- A list of numbers below 2^63 as Go has it. -/
def ofN (l : List Nat) : List Int := l.map Int.ofNat
theorem ofN_length (l : List Nat) : (ofN l).length = l.length := by simp [ofN]
theorem ofN_get (l : List Nat) {i : Nat} (h : i < l.length) : (ofN l).getD i 0 = ((l.getD i 0 : Nat) : Int) := by simp [ofN, List.getD, h]
def tabN (n : Nat) (c : Nat → Nat) : List Int := ofN ((List.range n).map c)
theorem tabN_length (n : Nat) (c : Nat → Nat) : (tabN n c).length = n := by simp [tabN, ofN]
theorem tabN_get (n : Nat) (c : Nat → Nat) {i : Nat} (h : i < n) : (tabN n c).getD i 0 = ((c i : Nat) : Int) := by simp [tabN, ofN, List.getD, h]

theorem map_take_succ {α β : Type} (f : α → β) (l : List α) (d : α) (k : Nat) (h : k < l.length) : (l.take (k + 1)).map f = (l.take k).map f ++ [f (l.getD k d)] := by
  rw [take_succ_getD l d k h, List.map_append]; rfl
theorem map_differ {f : Nat → Nat} {l m : List Nat} {k : Nat} (hl : k < l.length) (hm : k < m.length) (h : f (l.getD k 0) ≠ f (m.getD k 0)) : ¬ l.map f = m.map f := by
  intro e
  have := congrArg (fun x => x[k]?) e
  simp [hl, hm] at this
  simp [List.getD, hl, hm] at h
  exact h this

set_option maxHeartbeats 2000000 in
theorem alike (nx : List (List Nat)) (n : Nat) (c : Nat → Nat) (a b : Nat) (bp : Nat) (w : World) (B : Nat) (r : R) (h : RelPtr w B bp r) (hnext : r.next = nx.map ofN) (vc : Value) (hc : Ints w B vc (tabN n c))
    (ha : a < nx.length) (hb : b < nx.length) (hlen : (nx.getD a []).length = (nx.getD b []).length) (hW : (nx.getD a []).length ≤ 26) (hla : ∀ k, k < (nx.getD a []).length → (nx.getD a []).getD k 0 < n) (hlb : ∀ k, k < (nx.getD b []).length → (nx.getD b []).getD k 0 < n) :
    Calls Tryd.prog 48 #[.pointer (some ⟨bp, 0, none⟩), vc, .int .i64 a, .int .i64 b] w fun e w' => e = .returned (.bool (decide ((nx.getD a []).map c = (nx.getD b []).map c))) ∧ ∃ m, w' = w.drewN m := by
  obtain ⟨va, vn, c0, c1, c2, c3, -, ⟨U, ⟨ab, bb, ob, cb, rfl, hmb, hbb, hcb⟩, hU⟩⟩ := h
  rw [hnext] at hmb hbb hcb hU c3
  simp only [List.length_map] at hmb hbb hcb hU c3
  obtain ⟨rfl, -⟩ := hbb (by omega)
  have cA := hcb a ha
  have cB := hcb b hb
  have uA := hU a ha
  have uB := hU b hb
  have eA : (nx.map ofN).getD a [] = ofN (nx.getD a []) := by simp [List.getD, ha]
  have eB : (nx.map ofN).getD b [] = ofN (nx.getD b []) := by simp [List.getD, hb]
  rw [eA] at uA
  rw [eB] at uB
  obtain ⟨xa, hxa⟩ : ∃ xa, xa = nx.getD a [] := ⟨_, rfl⟩
  obtain ⟨xb, hxb⟩ : ∃ xb, xb = nx.getD b [] := ⟨_, rfl⟩
  rw [← hxa, ← hxb] at hlen
  rw [← hxa] at uA hla hW ⊢
  rw [← hxb] at uB hlb ⊢
  obtain ⟨aa, ba, oa, ca, hua, hma, haa, hca⟩ := uA
  obtain ⟨ab', bb', ob', cb', hub, hmb', hbb', hcb'⟩ := uB
  obtain ⟨ac, bc, oc, cc, rfl, hmc, hcc, hcv⟩ := hc
  rw [ofN_length] at hua hma haa hca hub hmb' hbb' hcb'
  rw [tabN_length] at hmc hcc hcv ⊢
  obtain ⟨W, hWW⟩ : ∃ W, W = xa.length := ⟨_, rfl⟩
  rw [← hlen, ← hWW] at hub hmb' hbb' hcb' hlb
  rw [← hWW] at hua hma haa hca hla hW hlen
  rw [hua] at cA
  rw [hub] at cB
  obtain ⟨q, hq⟩ : ∃ q, q = nx.length := ⟨_, rfl⟩
  rw [← hq] at c3 hmb ha hb
  unfold maxLen at hmb hmc
  have HWA := Lib.hid hWW
  have HWB := Lib.hid hlen
  clear hU hcb hua hub eA eB hxa hxb hq hWW hlen hma hmb' c0 c1 c2 hnext hbb
  obtain ⟨R, hR⟩ : ∃ R : Bool, R = decide (xa.map c = xb.map c) := ⟨_, rfl⟩
  rw [← hR]
  have HR := Lib.hid hR
  clear hR
  go_enter Tryd.func48, Tryd.ntmps48
  go_wp2
  go_loopw [9] (fun i wr => ∃ k m : Nat, k ≤ W ∧ i = .int .i64 k ∧ wr = w.drewN m ∧ (xa.take k).map c = (xb.take k).map c) (fun i _ => W - (intOf i).toNat)
  case atStart => exact ⟨0, 0, Nat.zero_le _, rfl, rfl, rfl⟩
  case round =>
    obtain ⟨k, m, hk, rfl, rfl, hg⟩ := hrel
    have HG := Lib.hid hg
    clear hg
    by_cases hlt : k < W
    · obtain rfl := (haa (by omega)).1
      obtain rfl := (hbb' (by omega)).1
      have rA := hca k hlt
      have rB := hcb' k hlt
      have la := hla k hlt
      have lb := hlb k hlt
      have hlA := Lib.hid (show k < xa.length by rw [← HWA.out]; exact hlt)
      have hlB := Lib.hid (show k < xb.length by rw [← HWB.out]; exact hlt)
      rw [ofN_get xa hlA.out] at rA
      rw [ofN_get xb hlB.out] at rB
      have HTA := Lib.hid (map_take_succ c xa 0 k hlA.out)
      have HTB := Lib.hid (map_take_succ c xb 0 k hlB.out)
      have HDF := Lib.hid (map_differ (f := c) hlA.out hlB.out)
      obtain ⟨x, hx⟩ : ∃ x, x = xa.getD k 0 := ⟨_, rfl⟩
      obtain ⟨y, hy⟩ : ∃ y, y = xb.getD k 0 := ⟨_, rfl⟩
      rw [← hx] at rA la HTA HDF
      rw [← hy] at rB lb HTB HDF
      obtain rfl := (hcc (by omega)).1
      have vA := hcv x la
      have vB := hcv y lb
      rw [tabN_get n c la] at vA
      rw [tabN_get n c lb] at vB
      obtain ⟨p, hp⟩ : ∃ p, p = c x := ⟨_, rfl⟩
      obtain ⟨s, hs⟩ : ∃ s, s = c y := ⟨_, rfl⟩
      rw [← hp] at vA HTA HDF
      rw [← hs] at vB HTB HDF
      have dA : w.cell? ⟨bb, ob + a, none⟩ = some (.slice (some ⟨ba, oa, none⟩) W ca) := cA
      clear hx hy hp hs hca hcb' hcv hla hlb haa hbb' hcc
      by_cases hps : p = s
      · subst hps
        have hne : (((p : Nat) : Int) != (p : Int)) = false := by simp
        go_wp2_with fail
        go_quiet (fail)
        go_wp2_with fail
        go_roundw
        case rel => exact ⟨k + 1, _, hlt, by go_num, rfl, by rw [HTA.out, HTB.out, HG.out]⟩
        case measure => simp [intOf]; omega
      · have hne : (((p : Nat) : Int) != (s : Int)) = true := by simp; omega
        have HRF := Lib.hid (show R = false by rw [HR.out]; exact decide_eq_false (HDF.out hps))
        go_wp2_with fail
        go_quiet (fail)
        go_wp2_with fail
        go_ret
        exact ⟨by rw [HRF.out]; rfl, _, World.drewN_drewN _ _ _⟩
    · have HRT := Lib.hid (show R = true by
        have h1 := HG.out
        rw [List.take_of_length_le (by have := HWA.out; omega), List.take_of_length_le (by have := HWA.out; have := HWB.out; omega)] at h1
        rw [HR.out]; exact decide_eq_true h1)
      clear hca hcb' hcv hla hlb haa hbb' hcc
      go_wp2
      go_ret
      exact ⟨by rw [HRT.out]; rfl, _, rfl⟩

/-- What is asked of the relation's rows. -/
def RowsOk (nx : List (List Nat)) (n W : Nat) : Prop := nx.length = n ∧ ∀ s, s < n → (nx.getD s []).length = W ∧ ∀ k, k < W → (nx.getD s []).getD k 0 < n
def auOf (nx : List (List Nat)) (n : Nat) (acc : Nat → Bool) : Au := ⟨n, acc, fun s => nx.getD s []⟩
abbrev key (nx : List (List Nat)) (c : Nat → Nat) (s : Nat) : Nat × List Nat := (c s, (nx.getD s []).map c)

theorem fin_T {k : Nat} {f : Nat → Int} {T : Nat → Int} {o : Int} (hT : ∀ i, T i = if i = k then o else if i = k then -1 else if i < k then f i else 0) (ho : o = f k) (i : Nat) : T i = if i < k + 1 then f i else 0 := by
  rw [hT i]
  by_cases e : i = k
  · subst e; simp [ho]
  · by_cases h : i < k
    · have : i < k + 1 := by omega
      simp [e, h, this]
    · have : ¬ i < k + 1 := by omega
      simp [e, h, this]

end Go.Proofs.YtaimealknkhfbaaDoor.SpecFiner
/- What the model's function on ended tapes hands back.
   Conditions: one to three tapes, a column of theirs, tapes that have ended as bits. -/
namespace Go.Proofs.YtaimealknkhfbaaDoor.SpecEnded
set_option linter.unusedVariables false
set_option linter.unusedSimpArgs false
open Go.RowKit Columns TidyRight

theorem digAny (c : Nat) (t : Nat) (hc : c < 26) (ht : t ≤ 2) (w : World) : Calls Tryd.prog 50 #[.int .i64 c, .int .i64 t] w fun e w' => e = .returned (.int .i64 ((c / 3 ^ t % 3 : Nat) : Int)) ∧ w = w' := by
  have : t = 0 ∨ t = 1 ∨ t = 2 := by omega
  rcases this with rfl | rfl | rfl
  · have := digit0 c (by omega) (by omega) w
    exact this.mono fun e w' ⟨he, hw⟩ => ⟨by rw [he]; simp, hw⟩
  · have := digit1 c (by omega) (by omega) w
    exact this.mono fun e w' ⟨he, hw⟩ => ⟨by rw [he]; simp, hw⟩
  · have := digit2 c (by omega) (by omega) w
    exact this.mono fun e w' ⟨he, hw⟩ => ⟨by rw [he]; simp, hw⟩



def stepE (c : Nat) (E : Option Nat) (t : Nat) : Option Nat := E.bind fun E => if c / 3 ^ t % 3 = 2 then some (E ||| 2 ^ t) else if E / 2 ^ t % 2 = 1 then none else some E
def runE (c e t : Nat) : Option Nat := (List.range t).foldl (stepE c) (some e)
theorem runE_succ (c e t : Nat) : runE c e (t + 1) = stepE c (runE c e t) t := by unfold runE; rw [List.range_succ, List.foldl_append]; rfl
theorem runE_none {c e t : Nat} (h : runE c e t = none) : ∀ k, runE c e (t + k) = none := by
  intro k
  induction k with
  | zero => exact h
  | succ k ih => rw [← Nat.add_assoc, runE_succ, ih]; rfl
theorem runE_end : ∀ k, k < 4 → ∀ e, e < 2 ^ k → ∀ c, c < 26 → runE c e k = if fol e (pd k c) = true then some (pd k c) else none := by decide +kernel
theorem or_lt : ∀ E, E < 8 → ∀ t, t < 3 → E ||| 2 ^ t < 8 := by decide
theorem or_bits : ∀ E : Nat, E < 8 → ∀ t : Nat, t < 3 → bits BinOp.or IntKind.i64 (E : Int) ((2 ^ t : Nat) : Int) = ((E ||| 2 ^ t : Nat) : Int) := by decide +kernel
theorem and_bits : ∀ E : Nat, E < 8 → bits BinOp.and IntKind.i64 (E : Int) 1 = ((E % 2 : Nat) : Int) := by decide +kernel

set_option maxHeartbeats 2000000 in
theorem ended (k e c : Nat) (hk : 1 ≤ k) (hk3 : k ≤ 3) (he : e < 2 ^ k) (hc : c < 26) (w : World) : Calls Tryd.prog 47 #[.int .i64 k, .int .i64 e, .int .i64 c] w fun x w' => x = .returned (.int .i64 (if fol e (pd k c) = true then ((pd k c : Nat) : Int) else -1)) ∧ w = w' := by
  have HD := Lib.hid (fun t (ht : t ≤ 2) W => digAny c t (by omega) ht W)
  have HE := Lib.hid (runE_end k (by omega) e he c hc)
  have he8 : e < 8 := Nat.lt_of_lt_of_le he (pow_le8 hk3)
  obtain ⟨R, hR⟩ : ∃ R, R = (if fol e (pd k c) = true then ((pd k c : Nat) : Int) else -1) := ⟨_, rfl⟩
  rw [← hR]
  have HR := Lib.hid hR
  clear hR he
  go_enter Tryd.func47, Tryd.ntmps47
  go_wp2
  go_loop [1, 7, 8] (fun E t _ => ∃ m E' : Nat, m ≤ k ∧ t = .int .i64 m ∧ E = .int .i64 E' ∧ E' < 8 ∧ runE c e m = some E') (fun _ t _ => k - (intOf t).toNat)
  case atStart => exact ⟨0, e, Nat.zero_le _, rfl, rfl, he8, rfl⟩
  case round =>
    obtain ⟨m, E, hm, rfl, rfl, hE, hrun⟩ := hrel
    have HRUN := Lib.hid hrun
    clear hrun
    by_cases hlt : m < k
    · obtain ⟨d, hd⟩ : ∃ d, d = c / 3 ^ m % 3 := ⟨_, rfl⟩
      have h0 : ∀ W, Calls Tryd.prog 50 #[.int .i64 c, .int .i64 m] W fun e w' => e = .returned (.int .i64 (d : Int)) ∧ W = w' := fun W => by rw [hd]; exact HD.out m (by omega) W
      have H0 := Lib.hid h0
      have HDD := Lib.hid hd
      have HST := Lib.hid (show runE c e (m + 1) = if d = 2 then some (E ||| 2 ^ m) else if E / 2 ^ m % 2 = 1 then none else some E by rw [runE_succ, HRUN.out, hd]; rfl)
      have HOL := Lib.hid (or_lt E hE m (by omega))
      have hor := or_bits E hE m (by omega)
      have hand := and_bits (E / 2 ^ m) (Nat.lt_of_le_of_lt (Nat.div_le_self _ _) hE)
      have HLT := Lib.hid hlt
      clear h0 hd
      by_cases hd2 : d = 2
      · subst hd2
        have HN := Lib.hid (show runE c e (m + 1) = some (E ||| 2 ^ m) by rw [HST.out]; rfl)
        obtain ⟨E', hE'⟩ : ∃ E', E' = E ||| 2 ^ m := ⟨_, rfl⟩
        rw [← hE'] at HN HOL hor
        clear hE' hand HST HDD
        have h3 : m = 0 ∨ m = 1 ∨ m = 2 := by omega
        rcases h3 with rfl | rfl | rfl
        all_goals
          simp at hor
          go_wp2_with (go_at_call 50; refine (H0.out _).mono ?_; rintro e w' ⟨rfl, rfl⟩)
          go_round
          case rel => exact ⟨_, _, HLT.out, by go_num, by go_num, HOL.out, HN.out⟩
          case measure => simp [intOf]; omega
      · have hd2' : ((d : Int) == 2) = false := by simp; omega
        have hd2'' : ¬ (d : Int) = 2 := by omega
        by_cases hb : E / 2 ^ m % 2 = 1
        · have HN := Lib.hid (show R = -1 by
            have h1 : runE c e (m + 1) = none := by rw [HST.out, if_neg hd2, if_pos hb]
            have h2 := runE_none h1 (k - (m + 1))
            rw [Nat.add_sub_cancel' HLT.out, HE.out] at h2
            rw [HR.out]
            by_cases hf : fol e (pd k c) = true
            · rw [if_pos hf] at h2; cases h2
            · rw [if_neg hf])
          rw [hb] at hand
          clear HST HDD hor hd2
          have h3 : m = 0 ∨ m = 1 ∨ m = 2 := by omega
          rcases h3 with rfl | rfl | rfl
          all_goals
            simp at hand
            go_wp2_with (go_at_call 50; refine (H0.out _).mono ?_; rintro e w' ⟨rfl, rfl⟩)
            go_ret
            exact ⟨by rw [HN.out]; rfl, rfl⟩
        · have HN := Lib.hid (show runE c e (m + 1) = some E by rw [HST.out, if_neg hd2, if_neg hb])
          have hb0 : E / 2 ^ m % 2 = 0 := by omega
          rw [hb0] at hand
          clear HST HDD hor hd2 hb hb0
          have h3 : m = 0 ∨ m = 1 ∨ m = 2 := by omega
          rcases h3 with rfl | rfl | rfl
          all_goals
            simp at hand
            go_wp2_with (go_at_call 50; refine (H0.out _).mono ?_; rintro e w' ⟨rfl, rfl⟩)
            go_round
            case rel => exact ⟨_, _, HLT.out, by go_num, rfl, hE, HN.out⟩
            case measure => simp [intOf]; omega
    · obtain rfl : m = k := by omega
      have HN := Lib.hid (show R = (E : Int) by
        have h2 := HE.out
        rw [HRUN.out] at h2
        rw [HR.out]
        by_cases hf : fol e (pd m c) = true
        · rw [if_pos hf] at h2 ⊢; cases h2; rfl
        · rw [if_neg hf] at h2; cases h2)
      go_wp2
      go_ret
      exact ⟨by rw [HN.out]; rfl, rfl⟩
end Go.Proofs.YtaimealknkhfbaaDoor.SpecEnded
