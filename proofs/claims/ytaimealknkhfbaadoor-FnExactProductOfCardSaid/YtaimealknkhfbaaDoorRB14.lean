
/- The automaton that the model makes of a relation with its tapes in another order.
   Conditions: stated at each theorem. -/
import Derived.Test.YtaimealknkhfbaaDoorRB10
import Derived.Test.YtaimealknkhfbaaDoorRB12
import Derived.Test.YtaimealknkhfbaaDoorRB13
import Derived.Deep.RegionHeld3
import Derived.Deep.DrawnRows
import Derived.Deep.RegionLaw
import Derived.Deep.RegionWith
import Derived.Test.YtaimealknkhfbaaDoorRB9
import Derived.Maps.Own
import Derived.Maps.OwnOps
import Derived.Maps.OwnSet
import Derived.DeepKeys5
namespace Go.Proofs.YtaimealknkhfbaaDoor.MovedS
set_option linter.unusedVariables false
set_option linter.unusedSimpArgs false
set_option maxRecDepth 100000
open Go.RowKit Mem Copy Rel Valid Heap Bld Columns ColMath SpecFiner Numbers TidyMath TidyAuto TidyRight ToL SpecRight SpecTidied SpecTidyRel Automaton TapeMath PutS Push CopyI
attribute [local go_sem ↓] Go.wp_at_zero Go.wp_at_succ

/-- All of a world is kept. -/
abbrev KQ (W1 : World) (W : World) : Prop := Below W1.heap.size W1 W
theorem KQ.size {W1 W : World} (h : KQ W1 W) : W1.heap.size ≤ W.heap.size := Below.size h

def plTo (o : List Nat) : Nat → List Nat
  | 0 => List.replicate o.length 0
  | t + 1 => (plTo o t).set (o.getD t 0) t
theorem plTo_len (o : List Nat) (t : Nat) : (plTo o t).length = o.length := by
  induction t with
  | zero => simp [plTo]
  | succ t ih => simp [plTo, ih]
theorem plTo_end {k : Nat} {o : List Nat} (h1 : 1 ≤ k) (h3 : k ≤ 3) (ho : o ∈ orders k) : plTo o k = invO o ∧ o.length = k ∧ ∀ t, t < k → o.getD t 0 < k := by
  have : k = 1 ∨ k = 2 ∨ k = 3 := by omega
  rcases this with rfl | rfl | rfl
  all_goals simp [orders] at ho
  · subst ho; exact ⟨by decide, rfl, by decide⟩
  · rcases ho with rfl | rfl <;> exact ⟨by decide, rfl, by decide⟩
  · rcases ho with rfl | rfl | rfl | rfl | rfl | rfl <;> exact ⟨by decide, rfl, by decide⟩
def nv (l : List Nat) : List Value := l.map fun x => Value.int .i64 ((x : Nat) : Int)
theorem nv_length (l : List Nat) : (nv l).length = l.length := by simp [nv]

theorem putL_ok' {l : L} (hl : l.Ok) {o : List Nat} (ho : o ∈ orders l.k) : (reL l l.k (putN o)).Ok :=
  reL_ok hl hl.k0 hl.k3 fun c hc => Nat.le_of_lt (put_fin hl.k0 hl.k3 ho hc).1
end Go.Proofs.YtaimealknkhfbaaDoor.MovedS
/- The program's map from letters to columns: what it holds.
   Conditions: one to three tapes. -/
namespace Go.Proofs.YtaimealknkhfbaaDoor.Numbers
set_option linter.unusedVariables false
set_option linter.unusedSimpArgs false
set_option maxRecDepth 100000
open Go.RowKit Go.Maps Columns ColMath

theorem laidOut : laidOutB Tryd.prog = true := by kernel_rfl
theorem law : Keyed Tryd.prog 75 := Keyed.of_law (deep_law_gate laidOut (of_decide_eq_true (by kernel_rfl)) (of_decide_eq_true (by kernel_rfl)) (by kernel_rfl) (by kernel_rfl))
theorem zero2 (w : World) : (zeroValue 2).run Tryd.prog w = .ok (.int .i64 0) w := by kernel_rfl

/-- Whatever three letters are a key. -/
theorem key_some (a b c : Int) (ha : a = 97 ∨ a = 98 ∨ a = 35) (hb : b = 97 ∨ b = 98 ∨ b = 35) (hc : c = 97 ∨ c = 98 ∨ c = 35) :
    (keyOf Tryd.prog 75 (.agg #[.int .u8 a, .int .u8 b, .int .u8 c])).isSome = true := by
  rcases ha with rfl | rfl | rfl <;> rcases hb with rfl | rfl | rfl <;> rcases hc with rfl | rfl | rfl
  all_goals (exact (by kernel_rfl))

/-- A choice of what the letters of a column read as, where they are keys. -/
def Keys (K : Value → Lit) : Prop := ∀ a b c : Int, (a = 97 ∨ a = 98 ∨ a = 35) → (b = 97 ∨ b = 98 ∨ b = 35) → (c = 97 ∨ c = 98 ∨ c = 35) →
  keyOf Tryd.prog 75 (.agg #[.int .u8 a, .int .u8 b, .int .u8 c]) = some (K (.agg #[.int .u8 a, .int .u8 b, .int .u8 c]))

theorem keys_are : ∃ K, Keys K := by
  refine ⟨fun v => (keyOf Tryd.prog 75 v).getD (.bool false), fun a b c ha hb hc => ?_⟩
  have h := key_some a b c ha hb hc
  cases hk : keyOf Tryd.prog 75 (.agg #[.int .u8 a, .int .u8 b, .int .u8 c]) with
  | none => rw [hk] at h; cases h
  | some l =>
    show some l = some ((keyOf Tryd.prog 75 _).getD (.bool false))
    rw [hk]; rfl

theorem keyV {K : Value → Lit} (hK : Keys K) (n : Nat) (c : Int) : keyOf Tryd.prog 75 (lettersV n c) = some (K (lettersV n c)) :=
  hK _ _ _ (letT_cases n c 0) (letT_cases n c 1) (letT_cases n c 2)

/-- The map's content behind k rounds. -/
def D (K : Value → Lit) (n : Nat) : Nat → DataW Unit
  | 0 => .map []
  | k + 1 => (D K n k).put (K (lettersV n k)) (.lit (.int .i64 k))

theorem ownsMap_of {w w' : World} {b m : Nat} {d : DataW Unit} (h : w.ownsMap Tryd.prog 75 (plainElem Tryd.prog 2) b m d) (e : w'.heap[b]? = w.heap[b]?) :
    w'.ownsMap Tryd.prog 75 (plainElem Tryd.prog 2) b m d := by
  obtain ⟨es, clock, hb, F, hs, hD⟩ := h
  exact ⟨es, clock, e.trans hb, F, hs, hD⟩


set_option maxHeartbeats 1000000 in
theorem numbers (K : Value → Lit) (hK : Keys K) (n : Nat) (h1 : 1 ≤ n) (h3 : n ≤ 3) (w : World) :
    Calls Tryd.prog 63 #[.int .i64 n] w fun e w' => e = .returned (.map (some w.heap.size)) ∧
      w'.ownsMap Tryd.prog 75 (plainElem Tryd.prog 2) w.heap.size (widN n) (D K n (widN n)) ∧ Below w.heap.size w w' ∧ w.heap.size < w'.heap.size := by
  have hmm := @run_makeMap Tryd.prog
  have hwid : widthOf n = (widN n : Int) := by
    have : n = 1 ∨ n = 2 ∨ n = 3 := by omega
    rcases this with rfl | rfl | rfl <;> rfl
  have hw26 : widN n ≤ 26 := by unfold widN; split <;> (try split) <;> omega
  have HC := Lib.hid (hwid ▸ countAny n (by omega) (by omega))
  have HL := Lib.hid (fun c h0 hc W => lettersAny n h1 h3 c h0 hc W)
  obtain ⟨q, hq⟩ : ∃ q, q = widN n := ⟨_, rfl⟩
  rw [← hq] at HC hw26
  rw [← hq]
  have HKK := Lib.hid hK
  clear hwid hq h1 h3 hK
  go_enter Tryd.func63, Tryd.ntmps63
  go_wp2_with (go_at_call 38; refine (HC.out _).mono ?_; rintro e w' ⟨rfl, rfl⟩)
  go_loopw [8] (fun i wr => ∃ k : Nat, k ≤ q ∧ i = .int .i64 k ∧ wr.ownsMap Tryd.prog 75 (plainElem Tryd.prog 2) w.heap.size k (D K n k) ∧ Below w.heap.size w wr ∧ w.heap.size < wr.heap.size) (fun i _ => q - (intOf i).toNat)
  case atStart => exact ⟨0, Nat.zero_le _, rfl, World.ownsMap_made _ _ _ _, (Below.refl _ _).alloc (Nat.le_refl _) _, by simp⟩
  case round =>
    obtain ⟨k, hk, rfl, hown, hbel, hsz⟩ := hrel
    have HO := Lib.hid hown
    have HB := Lib.hid hbel
    have HS := Lib.hid hsz
    clear hown hbel hsz
    by_cases hlt : k < q
    · go_wp2_with fail
      refine (HL.out k (by omega) (by omega) _).mono ?_
      rintro e w1 ⟨rfl, hg⟩
      have hb := hg
      have HO1 := Lib.hid (ownsMap_of HO.out (hb.block _ HS.out))
      have HB1 := Lib.hid (HB.out.trans (hb.mono (Nat.le_of_lt HS.out)))
      have HS1 := Lib.hid (Nat.lt_of_lt_of_le HS.out hb.size)
      have HK := Lib.hid (keyV HKK.out n k)
      clear hb hg
      go_wp2_with (at_mapUpdate; refine wpList_mapUpdate_own _ rfl _ _ _ 97 rfl 75 2 law Tryd.underlying97 _ w.heap.size k _ rfl HO1.out (by unfold maxLen; omega) _ _ _ rfl rfl HK.out _ [] (plainElem_int Tryd.underlying2 (WalkArith.wf_i64 (by omega))) ?_; intro w2 hown2 hgrow2; have HO2 := Lib.hid hown2; have HG2 := Lib.hid hgrow2; clear hown2 hgrow2)
      go_roundw
      case rel =>
        refine ⟨k + 1, by omega, by go_num, (show D K n (k + 1) = (D K n k).put (K (lettersV n k)) (.lit (.int .i64 k)) from rfl) ▸ HO2.out, HB1.out.grown HG2.out (Nat.le_of_lt HS1.out) (fun j hj => by cases hj; exact Nat.le_refl _), Nat.lt_of_lt_of_le HS1.out HG2.out.size⟩
      case measure => simp [intOf]; omega
    · have hkq : k = q := by omega
      subst hkq
      go_wp2
      go_ret
      exact ⟨rfl, HO.out, HB.out, HS.out⟩

theorem D_isMap (K : Value → Lit) (n : Nat) : ∀ m, IsMap (D K n m)
  | 0 => isMap_empty
  | m + 1 => (D_isMap K n m).put _ _

theorem D_at {K : Value → Lit} (hK : Keys K) (n : Nat) (h1 : 1 ≤ n) (h3 : n ≤ 3) (c : Nat) : ∀ m, c < m → m ≤ widN n → (D K n m).atKey (K (lettersV n c)) (.lit (.int .i64 0)) = .lit (.int .i64 c)
  | 0, h, _ => absurd h (Nat.not_lt_zero c)
  | m + 1, h, hm => by
    show ((D K n m).put (K (lettersV n m)) (.lit (.int .i64 m))).atKey (K (lettersV n c)) (.lit (.int .i64 0)) = _
    by_cases e : c = m
    · subst e
      exact atKey_put_same (D_isMap K n c) (law.key (keyV hK n c)) _ _
    · rw [atKey_put_other (fun e' => ?_)]
      · exact D_at hK n h1 h3 c m (by omega) (by omega)
      · have h2 : keyOf Tryd.prog 75 (lettersV n c) = some (K (lettersV n m)) := by rw [keyV hK n c, e']
        exact e (lettersV_inj n h1 h3 c m (by omega) (by omega) (law.inj h2 (keyV hK n m)))

end Go.Proofs.YtaimealknkhfbaaDoor.Numbers
