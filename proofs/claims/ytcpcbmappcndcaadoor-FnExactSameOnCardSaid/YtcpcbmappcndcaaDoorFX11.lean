
/- What the model's column with one tape more is.
   Conditions: stated at the theorem. -/
import Derived.Test.YtcpcbmappcndcaaDoorFX10
import Derived.Test.YtcpcbmappcndcaaDoorFX9
import Derived.Maps.Own
import Derived.Maps.OwnOps
import Derived.Maps.OwnSet
import Derived.DeepKeys5
import Derived.Deep.RegionWith
import Derived.Test.YtcpcbmappcndcaaDoorRows
import Derived.WalkKit
import Derived.LaidEql
import Derived.Stop.Asserts
import Derived.RowKitTokens
import Derived.Lib.Hide
namespace Go.Proofs.YtcpcbmappcndcaaDoor.WithS
set_option linter.unusedVariables false
set_option linter.unusedSimpArgs false
set_option maxRecDepth 100000
open Go.RowKit Mem Copy Rel Columns ColMath Numbers TidyRight TapeMath WithMath PutS

set_option maxHeartbeats 4000000 in
/-- The model's column with something on one tape more. -/
theorem withS (n a d c : Nat) (hn : n ≤ 3) (hc : c ≤ 26) (ha : a ≤ 2) (hd : d ≤ 2) (w : World) :
    Calls Tryd.prog 24 #[.int .i64 c, .int .i64 n, .int .i64 a, .int .i64 d] w fun e w' => e = .returned (.int .i64 ((withN n a d c : Nat) : Int)) ∧ ∃ m, w' = w.drewN m := by
  have HD := Lib.hid (fun t (ht : t ≤ 2) W => digitAny c t hc ht W)
  have HP := Lib.hid (fun t (ht : t ≤ 3) W => powerAny t ht W)
  unfold withN
  obtain ⟨z0, hz0⟩ : ∃ z, z = 3 ^ a := ⟨_, rfl⟩
  have HPA := Lib.hid (fun W => HP.out a (by omega) W)
  rw [← hz0] at HPA
  have hz09 : z0 ≤ 9 := by
    have : a = 0 ∨ a = 1 ∨ a = 2 := by omega
    rcases this with h | h | h <;> rw [hz0, h] <;> decide
  have hd18 : d * z0 ≤ 18 := Nat.mul_le_mul hd hz09
  have hw0 : IntKind.i64.wrap ((d : Int) * (z0 : Int)) = (d : Int) * (z0 : Int) := by rw [← Int.natCast_mul, IntKind.wrap_i64]; omega
  have HZ0 := Lib.hid (show (withTo a d c 0).1 = d * z0 from by rw [hz0]; rfl)
  have HBD := Lib.hid (fun t => (show (withTo a d c t).1 ≤ d * z0 + (3 ^ t - 1) from by rw [hz0]; exact withTo_bound a d c t))
  clear hz0
  go_enter Tryd.func24, Tryd.ntmps24
  go_wp2_with (go_at_call 52; refine (HPA.out _).mono ?_; rintro e w' ⟨rfl, rfl⟩)
  go_loopw [9, 10, 11] (fun s7 s8 s9 wr => ∃ t m : Nat, t ≤ n ∧ s9 = .int .i64 t ∧ s7 = .int .i64 (((withTo a d c t).1 : Nat) : Int) ∧ s8 = .int .i64 (((withTo a d c t).2 : Nat) : Int) ∧ wr = w.drewN m) (fun _ _ s9 _ => n - (intOf s9).toNat)
  case atStart => exact ⟨0, 0, Nat.zero_le _, rfl, by rw [HZ0.out]; simp, rfl, rfl⟩
  case round =>
    obtain ⟨t, m, ht, rfl, rfl, rfl, rfl⟩ := hrel
    by_cases hlt : t < n
    · by_cases hta : t = a
      · have hne : ((t : Int) != (a : Int)) = false := by simp [hta]
        have HE := Lib.hid (show withTo a d c (t + 1) = withTo a d c t by show (if t = a then _ else _) = _; rw [if_pos hta])
        clear hta
        go_wp2_with fail
        go_roundw
        case rel => exact ⟨t + 1, m, hlt, by go_num, by rw [HE.out], by rw [HE.out], rfl⟩
        case measure => simp [intOf]; omega
      · have hne : ((t : Int) != (a : Int)) = true := by simp; omega
        have HE := Lib.hid (show withTo a d c (t + 1) = ((withTo a d c t).1 + c / 3 ^ (withTo a d c t).2 % 3 * 3 ^ t, (withTo a d c t).2 + 1) by show (if t = a then _ else _) = _; rw [if_neg hta])
        have hb1 := withTo_le a d c t
        have hb2 := HBD.out t
        obtain ⟨x, hx⟩ : ∃ x, x = (withTo a d c t).1 := ⟨_, rfl⟩
        obtain ⟨y, hy⟩ : ∃ y, y = (withTo a d c t).2 := ⟨_, rfl⟩
        rw [← hx, ← hy] at HE
        rw [← hx] at hb2
        rw [← hy] at hb1
        rw [← hx, ← hy]
        have ht2 : t ≤ 2 := by omega
        obtain ⟨z, hz⟩ : ∃ z, z = 3 ^ t := ⟨_, rfl⟩
        have HPT := Lib.hid (fun W => HP.out t (by omega) W)
        rw [← hz] at HPT HE hb2
        have hz9 : z ≤ 9 := by
          have : t = 0 ∨ t = 1 ∨ t = 2 := by omega
          rcases this with h | h | h <;> rw [hz, h] <;> decide
        have hx8 : x ≤ 26 := by omega
        clear hb2 hta hx
        obtain ⟨g, hg⟩ : ∃ g, g = c / 3 ^ y % 3 := ⟨_, rfl⟩
        have HDT := Lib.hid (fun W => HD.out y (by omega) W)
        rw [← hg] at HDT HE
        have hg2 : g ≤ 2 := by omega
        have hdz : g * z ≤ 18 := Nat.mul_le_mul hg2 hz9
        have hw1 : IntKind.i64.wrap ((g : Int) * (z : Int)) = (g : Int) * (z : Int) := by rw [← Int.natCast_mul, IntKind.wrap_i64]; omega
        have hw2 : IntKind.i64.wrap ((x : Int) + (g : Int) * (z : Int)) = (x : Int) + (g : Int) * (z : Int) := by rw [← Int.natCast_mul, IntKind.wrap_i64]; omega
        clear hg hz hy
        go_wp2_with (first | (go_at_call 45; refine (HDT.out _).mono ?_; rintro e w' ⟨rfl, rfl⟩) | (go_at_call 52; refine (HPT.out _).mono ?_; rintro e w' ⟨rfl, rfl⟩))
        go_roundw
        case rel => exact ⟨t + 1, _, hlt, by go_num, by rw [HE.out]; simp, by rw [HE.out]; go_num, rfl⟩
        case measure => simp [intOf]; omega
    · obtain rfl : t = n := by omega
      go_wp2
      go_ret
      exact ⟨rfl, _, rfl⟩
end Go.Proofs.YtcpcbmappcndcaaDoor.WithS
/- Lists that name each tape just once, and how they are found out, element by element.
   Conditions: stated at each theorem. -/
namespace Go.Proofs.YtcpcbmappcndcaaDoor.OrdMath
set_option linter.unusedVariables false
set_option linter.unusedSimpArgs false
open TapeMath

/-- Whether a list has each tape just once. -/
def ordB (k : Nat) (o : List Int) : Bool := (orders k).any fun p => p.map Int.ofNat == o
/-- Whether one of the first t elements is x. -/
def metB (o : List Int) (t : Nat) (x : Int) : Bool := (List.range t).any fun i => o.getD i 0 == x
/-- Whether the first t elements are tapes, none of them twice. -/
def fineB (k : Nat) (o : List Int) : Nat → Bool
  | 0 => true
  | t + 1 => fineB k o t && (decide (0 ≤ o.getD t 0) && decide (o.getD t 0 < k) && !metB o t (o.getD t 0))

theorem metB_zero (o : List Int) (x : Int) : metB o 0 x = false := rfl
theorem metB_succ (o : List Int) (t : Nat) (x : Int) : metB o (t + 1) x = (metB o t x || o.getD t 0 == x) := by
  unfold metB
  rw [List.range_succ, List.any_append]; simp
theorem fineB_step {k : Nat} {o : List Int} {t : Nat} (h : fineB k o t = true) (h0 : 0 ≤ o.getD t 0) (h1 : o.getD t 0 < k) (h2 : metB o t (o.getD t 0) = false) : fineB k o (t + 1) = true := by
  unfold fineB
  rw [h, h2]; simp; exact ⟨by simpa using h0, by simpa using h1⟩
theorem fineB_far {k : Nat} {o : List Int} {t : Nat} (h : ¬ (0 ≤ o.getD t 0 ∧ o.getD t 0 < k)) : fineB k o (t + 1) = false := by
  unfold fineB
  have : (decide (0 ≤ o.getD t 0) && decide (o.getD t 0 < (k : Int))) = false := by
    rw [← Bool.not_eq_true, Bool.and_eq_true, decide_eq_true_eq, decide_eq_true_eq]; exact h
  rw [this]; simp
theorem fineB_met {k : Nat} {o : List Int} {t : Nat} (h : metB o t (o.getD t 0) = true) : fineB k o (t + 1) = false := by
  unfold fineB
  rw [h]; simp
theorem fineB_le {k : Nat} {o : List Int} {s t : Nat} (hst : s ≤ t) (h : fineB k o t = true) : fineB k o s = true := by
  induction t with
  | zero => obtain rfl : s = 0 := by omega
            exact h
  | succ t ih =>
    by_cases e : s = t + 1
    · rw [e]; exact h
    · unfold fineB at h
      rw [Bool.and_eq_true] at h
      exact ih (by omega) h.1
def allFine : Bool := (List.range 4).all fun k => k == 0 || (orders k).all fun p => fineB k (p.map Int.ofNat) k && (p.length == k)
theorem allFine_true : allFine = true := by decide +kernel
theorem fine_of_ord {k : Nat} {o : List Int} (h1 : 1 ≤ k) (h3 : k ≤ 3) (h : ordB k o = true) : fineB k o k = true ∧ o.length = k ∧ o.map Int.toNat ∈ orders k ∧ (o.map Int.toNat).map Int.ofNat = o := by
  unfold ordB at h
  obtain ⟨p, hp, he⟩ := List.any_eq_true.1 h
  have he := eq_of_beq he
  have h0 := List.all_eq_true.1 allFine_true k (List.mem_range.2 (by omega))
  rw [Bool.or_eq_true] at h0
  have h2 := List.all_eq_true.1 (h0.resolve_left (by simp; omega)) p hp
  rw [Bool.and_eq_true] at h2
  have e : (p.map Int.ofNat).map Int.toNat = p := by
    rw [List.map_map]; conv => rhs; rw [← List.map_id p]
    exact List.map_congr_left fun x _ => rfl
  subst he
  rw [e, List.length_map]
  exact ⟨h2.1, eq_of_beq h2.2, hp, rfl⟩
theorem ord_of_fine {k : Nat} {o : List Int} (h1 : 1 ≤ k) (h3 : k ≤ 3) (hl : o.length = k) (h : fineB k o k = true) : ordB k o = true := by
  have : k = 1 ∨ k = 2 ∨ k = 3 := by omega
  rcases this with rfl | rfl | rfl
  · obtain ⟨a, rfl⟩ : ∃ a, o = [a] := List.length_eq_one_iff.1 hl
    simp [fineB, metB] at h
    obtain rfl : a = 0 := by omega
    decide
  · obtain ⟨a, b, rfl⟩ : ∃ a b, o = [a, b] := by
      match o, hl with
      | [a, b], _ => exact ⟨a, b, rfl⟩
    simp [fineB, metB, List.range_succ] at h
    obtain ⟨h5, h6, h7⟩ := h
    have : (a = 0 ∨ a = 1) ∧ (b = 0 ∨ b = 1) := by omega
    rcases this with ⟨rfl | rfl, rfl | rfl⟩ <;> first | decide | (exact absurd rfl h7) | omega
  · obtain ⟨a, b, c, rfl⟩ : ∃ a b c, o = [a, b, c] := by
      match o, hl with
      | [a, b, c], _ => exact ⟨a, b, c, rfl⟩
    simp [fineB, metB, List.range_succ] at h
    obtain ⟨⟨h4, h5, h6⟩, h7, h8⟩ := h
    have : (a = 0 ∨ a = 1 ∨ a = 2) ∧ (b = 0 ∨ b = 1 ∨ b = 2) ∧ (c = 0 ∨ c = 1 ∨ c = 2) := by omega
    rcases this with ⟨rfl | rfl | rfl, rfl | rfl | rfl, rfl | rfl | rfl⟩ <;> first | decide | (exact absurd rfl h6) | (exact absurd rfl h8.1) | (exact absurd rfl h8.2)
/-- Not each tape just once: the length is another, or the first elements tell. -/
theorem ord_no {k : Nat} {o : List Int} (h1 : 1 ≤ k) (h3 : k ≤ 3) {t : Nat} (ht : t ≤ k) (h : fineB k o t = false) : ordB k o = false := by
  cases e : ordB k o with
  | false => rfl
  | true => rw [fineB_le ht (fine_of_ord h1 h3 e).1] at h; cases h
theorem ord_len {k : Nat} {o : List Int} (h1 : 1 ≤ k) (h3 : k ≤ 3) (h : o.length ≠ k) : ordB k o = false := by
  cases e : ordB k o with
  | false => rfl
  | true => exact absurd (fine_of_ord h1 h3 e).2.1 h
end Go.Proofs.YtcpcbmappcndcaaDoor.OrdMath
/- The program's map from letters to columns: what it holds.
   Conditions: one to three tapes. -/
namespace Go.Proofs.YtcpcbmappcndcaaDoor.Numbers
set_option linter.unusedVariables false
set_option linter.unusedSimpArgs false
set_option maxRecDepth 100000
open Go.RowKit Go.Maps Columns ColMath

theorem laidOut : laidOutB Tryd.prog = true := by kernel_rfl
theorem law : Keyed Tryd.prog 82 := Keyed.of_law (deep_law_gate laidOut (of_decide_eq_true (by kernel_rfl)) (of_decide_eq_true (by kernel_rfl)) (by kernel_rfl) (by kernel_rfl))
theorem zero2 (w : World) : (zeroValue 2).run Tryd.prog w = .ok (.int .i64 0) w := by kernel_rfl

/-- Whatever three letters are a key. -/
theorem key_some (a b c : Int) (ha : a = 97 ∨ a = 98 ∨ a = 35) (hb : b = 97 ∨ b = 98 ∨ b = 35) (hc : c = 97 ∨ c = 98 ∨ c = 35) :
    (keyOf Tryd.prog 82 (.agg #[.int .u8 a, .int .u8 b, .int .u8 c])).isSome = true := by
  rcases ha with rfl | rfl | rfl <;> rcases hb with rfl | rfl | rfl <;> rcases hc with rfl | rfl | rfl
  all_goals (exact (by kernel_rfl))

/-- A choice of what the letters of a column read as, where they are keys. -/
def Keys (K : Value → Lit) : Prop := ∀ a b c : Int, (a = 97 ∨ a = 98 ∨ a = 35) → (b = 97 ∨ b = 98 ∨ b = 35) → (c = 97 ∨ c = 98 ∨ c = 35) →
  keyOf Tryd.prog 82 (.agg #[.int .u8 a, .int .u8 b, .int .u8 c]) = some (K (.agg #[.int .u8 a, .int .u8 b, .int .u8 c]))

theorem keys_are : ∃ K, Keys K := by
  refine ⟨fun v => (keyOf Tryd.prog 82 v).getD (.bool false), fun a b c ha hb hc => ?_⟩
  have h := key_some a b c ha hb hc
  cases hk : keyOf Tryd.prog 82 (.agg #[.int .u8 a, .int .u8 b, .int .u8 c]) with
  | none => rw [hk] at h; cases h
  | some l =>
    show some l = some ((keyOf Tryd.prog 82 _).getD (.bool false))
    rw [hk]; rfl

theorem keyV {K : Value → Lit} (hK : Keys K) (n : Nat) (c : Int) : keyOf Tryd.prog 82 (lettersV n c) = some (K (lettersV n c)) :=
  hK _ _ _ (letT_cases n c 0) (letT_cases n c 1) (letT_cases n c 2)

/-- The map's content behind k rounds. -/
def D (K : Value → Lit) (n : Nat) : Nat → DataW Unit
  | 0 => .map []
  | k + 1 => (D K n k).put (K (lettersV n k)) (.lit (.int .i64 k))

theorem ownsMap_of {w w' : World} {b m : Nat} {d : DataW Unit} (h : w.ownsMap Tryd.prog 82 (plainElem Tryd.prog 2) b m d) (e : w'.heap[b]? = w.heap[b]?) :
    w'.ownsMap Tryd.prog 82 (plainElem Tryd.prog 2) b m d := by
  obtain ⟨es, clock, hb, F, hs, hD⟩ := h
  exact ⟨es, clock, e.trans hb, F, hs, hD⟩


set_option maxHeartbeats 1000000 in
theorem numbers (K : Value → Lit) (hK : Keys K) (n : Nat) (h1 : 1 ≤ n) (h3 : n ≤ 3) (w : World) :
    Calls Tryd.prog 60 #[.int .i64 n] w fun e w' => e = .returned (.map (some w.heap.size)) ∧
      w'.ownsMap Tryd.prog 82 (plainElem Tryd.prog 2) w.heap.size (widN n) (D K n (widN n)) ∧ Below w.heap.size w w' ∧ w.heap.size < w'.heap.size := by
  have hmm := @run_makeMap Tryd.prog
  have hwid : widthOf n = (widN n : Int) := by
    have : n = 1 ∨ n = 2 ∨ n = 3 := by omega
    rcases this with rfl | rfl | rfl <;> rfl
  have hw26 : widN n ≤ 26 := by unfold widN; split <;> (try split) <;> omega
  have HC := Lib.hid (hwid ▸ countAny n (by omega) (by omega))
  have HL := Lib.hid (fun c h0 hc W => lettersAny n h1 h3 c h0 hc W)
  obtain ⟨q, hq⟩ : ∃ q, q = widN n := ⟨_, rfl⟩
  rw [← hq] at HC hw26
  rw [← hq]
  have HKK := Lib.hid hK
  clear hwid hq h1 h3 hK
  go_enter Tryd.func60, Tryd.ntmps60
  go_wp2_with (go_at_call 55; refine (HC.out _).mono ?_; rintro e w' ⟨rfl, rfl⟩)
  go_loopw [8] (fun i wr => ∃ k : Nat, k ≤ q ∧ i = .int .i64 k ∧ wr.ownsMap Tryd.prog 82 (plainElem Tryd.prog 2) w.heap.size k (D K n k) ∧ Below w.heap.size w wr ∧ w.heap.size < wr.heap.size) (fun i _ => q - (intOf i).toNat)
  case atStart => exact ⟨0, Nat.zero_le _, rfl, World.ownsMap_made _ _ _ _, (Below.refl _ _).alloc (Nat.le_refl _) _, by simp⟩
  case round =>
    obtain ⟨k, hk, rfl, hown, hbel, hsz⟩ := hrel
    have HO := Lib.hid hown
    have HB := Lib.hid hbel
    have HS := Lib.hid hsz
    clear hown hbel hsz
    by_cases hlt : k < q
    · go_wp2_with fail
      refine (HL.out k (by omega) (by omega) _).mono ?_
      rintro e w1 ⟨rfl, hg⟩
      have hb := hg
      have HO1 := Lib.hid (ownsMap_of HO.out (hb.block _ HS.out))
      have HB1 := Lib.hid (HB.out.trans (hb.mono (Nat.le_of_lt HS.out)))
      have HS1 := Lib.hid (Nat.lt_of_lt_of_le HS.out hb.size)
      have HK := Lib.hid (keyV HKK.out n k)
      clear hb hg
      go_wp2_with (at_mapUpdate; refine wpList_mapUpdate_own _ rfl _ _ _ 77 rfl 82 2 law Tryd.underlying77 _ w.heap.size k _ rfl HO1.out (by unfold maxLen; omega) _ _ _ rfl rfl HK.out _ [] (plainElem_int Tryd.underlying2 (WalkArith.wf_i64 (by omega))) ?_; intro w2 hown2 hgrow2; have HO2 := Lib.hid hown2; have HG2 := Lib.hid hgrow2; clear hown2 hgrow2)
      go_roundw
      case rel =>
        refine ⟨k + 1, by omega, by go_num, (show D K n (k + 1) = (D K n k).put (K (lettersV n k)) (.lit (.int .i64 k)) from rfl) ▸ HO2.out, HB1.out.grown HG2.out (Nat.le_of_lt HS1.out) (fun j hj => by cases hj; exact Nat.le_refl _), Nat.lt_of_lt_of_le HS1.out HG2.out.size⟩
      case measure => simp [intOf]; omega
    · have hkq : k = q := by omega
      subst hkq
      go_wp2
      go_ret
      exact ⟨rfl, HO.out, HB.out, HS.out⟩

theorem D_isMap (K : Value → Lit) (n : Nat) : ∀ m, IsMap (D K n m)
  | 0 => isMap_empty
  | m + 1 => (D_isMap K n m).put _ _

theorem D_at {K : Value → Lit} (hK : Keys K) (n : Nat) (h1 : 1 ≤ n) (h3 : n ≤ 3) (c : Nat) : ∀ m, c < m → m ≤ widN n → (D K n m).atKey (K (lettersV n c)) (.lit (.int .i64 0)) = .lit (.int .i64 c)
  | 0, h, _ => absurd h (Nat.not_lt_zero c)
  | m + 1, h, hm => by
    show ((D K n m).put (K (lettersV n m)) (.lit (.int .i64 m))).atKey (K (lettersV n c)) (.lit (.int .i64 0)) = _
    by_cases e : c = m
    · subst e
      exact atKey_put_same (D_isMap K n c) (law.key (keyV hK n c)) _ _
    · rw [atKey_put_other (fun e' => ?_)]
      · exact D_at hK n h1 h3 c m (by omega) (by omega)
      · have h2 : keyOf Tryd.prog 82 (lettersV n c) = some (K (lettersV n m)) := by rw [keyV hK n c, e']
        exact e (lettersV_inj n h1 h3 c m (by omega) (by omega) (law.inj h2 (keyV hK n m)))

end Go.Proofs.YtcpcbmappcndcaaDoor.Numbers
/- What the program's reread hands back: the automaton that reads changed columns.
   Conditions: stated at each theorem. -/
namespace Go.Proofs.YtcpcbmappcndcaaDoor.Reread
set_option linter.unusedVariables false
set_option linter.unusedSimpArgs false
set_option maxRecDepth 100000
open Go.RowKit Go.Maps Mem Copy Rel Valid Heap Bld Columns ColMath SpecFiner Numbers TidyMath TidyRight SpecRight Automaton TapeMath

theorem look_eq {w : World} {b n : Nat} {D : DataW Unit} {key : Value} {kl : Lit} (hown : w.ownsMap Tryd.prog 82 (plainElem Tryd.prog 2) b n D) (hkey : keyOf Tryd.prog 82 key = some kl) (c0 : Int) (bb : Bool)
    (hat : D.atKey kl (.lit (.int .i64 0)) = .lit (.int .i64 c0)) (hhas : Maps.has D kl = bb) :
    (Instr.lookup 77 (.map (some b)) key true).run Tryd.prog w = .ok (.tuple #[.int .i64 c0, .bool bb]) w := by
  obtain ⟨v, ps, hrun, hv⟩ := hown.look_ok law Tryd.underlying77 (zero2 w) (plainElem_int Tryd.underlying2 (by decide)) hkey
  obtain ⟨c, rfl, hc, hwc⟩ := plainElem_int_inv Tryd.underlying2 hv
  rw [hat] at hc
  have h1 := congrArg Prod.fst hc
  injection h1 with h1
  injection h1 with _ h1
  rw [hrun, hhas, h1]

theorem some_letter : ∀ n, n < 4 → 1 ≤ n → ∀ c, c < widN n → ¬ (letT n c 0 = 35 ∧ letT n c 1 = 35 ∧ letT n c 2 = 35) := by decide +kernel
theorem no_letter : ∀ n, n < 4 → 1 ≤ n → letT n (widN n : Nat) 0 = 35 ∧ letT n (widN n : Nat) 1 = 35 ∧ letT n (widN n : Nat) 2 = 35 := by decide +kernel
theorem pads_ne (n : Nat) (h1 : 1 ≤ n) (h3 : n ≤ 3) (c : Nat) (hc : c < widN n) : lettersV n c ≠ lettersV n (widN n : Nat) := fun h => by
  unfold lettersV at h
  simp only [Value.agg.injEq] at h
  have h := congrArg Array.toList h
  simp only [List.cons.injEq, Value.int.injEq, true_and, and_true] at h
  obtain ⟨e0, e1, e2⟩ := h
  obtain ⟨p0, p1, p2⟩ := no_letter n (by omega) h1
  exact some_letter n (by omega) h1 c hc ⟨e0.trans p0, e1.trans p1, e2.trans p2⟩
theorem D_has {K : Value → Lit} (hK : Keys K) (n : Nat) (h1 : 1 ≤ n) (h3 : n ≤ 3) (c : Nat) : ∀ m, c < m → m ≤ widN n → Maps.has (Numbers.D K n m) (K (lettersV n c)) = true
  | 0, h, _ => absurd h (Nat.not_lt_zero c)
  | m + 1, h, hm => by
    show Maps.has ((Numbers.D K n m).put (K (lettersV n m)) (.lit (.int .i64 m))) (K (lettersV n c)) = true
    by_cases e : c = m
    · subst e
      exact has_put_same (D_isMap K n c) (law.key (keyV hK n c)) _
    · rw [has_put_other (fun e' => ?_)]
      · exact D_has hK n h1 h3 c m (by omega) (by omega)
      · have h2 : keyOf Tryd.prog 82 (lettersV n c) = some (K (lettersV n m)) := by rw [keyV hK n c, e']
        exact e (lettersV_inj n h1 h3 c m (by omega) (by omega) (law.inj h2 (keyV hK n m)))
theorem D_no {K : Value → Lit} (hK : Keys K) (n : Nat) (h1 : 1 ≤ n) (h3 : n ≤ 3) : ∀ m, m ≤ widN n → Maps.has (Numbers.D K n m) (K (lettersV n (widN n : Nat))) = false ∧ (Numbers.D K n m).atKey (K (lettersV n (widN n : Nat))) (.lit (.int .i64 0)) = .lit (.int .i64 0)
  | 0, _ => ⟨by simp [Numbers.D, Maps.has], rfl⟩
  | m + 1, hm => by
    have hne : K (lettersV n (widN n : Nat)) ≠ K (lettersV n m) := fun e' => by
      have h2 : keyOf Tryd.prog 82 (lettersV n (widN n : Nat)) = some (K (lettersV n m)) := by rw [keyV hK n (widN n : Nat), e']
      exact pads_ne n h1 h3 m (by omega) (law.inj h2 (keyV hK n m)).symm
    obtain ⟨i1, i2⟩ := D_no hK n h1 h3 m (by omega)
    constructor
    · show Maps.has ((Numbers.D K n m).put (K (lettersV n m)) (.lit (.int .i64 m))) _ = false
      rw [has_put_other hne]; exact i1
    · show ((Numbers.D K n m).put (K (lettersV n m)) (.lit (.int .i64 m))).atKey _ _ = _
      rw [atKey_put_other hne]; exact i2
theorem widN_eq {k : Nat} (h1 : 1 ≤ k) (h3 : k ≤ 3) : widN k = wide k := by
  have : k = 1 ∨ k = 2 ∨ k = 3 := by omega
  rcases this with rfl | rfl | rfl <;> rfl
/-- What is found for the letters of a column, or of pads alone. -/
theorem look {K : Value → Lit} (hK : Keys K) (k : Nat) (h1 : 1 ≤ k) (h3 : k ≤ 3) {w : World} {b : Nat} (hown : w.ownsMap Tryd.prog 82 (plainElem Tryd.prog 2) b (widN k) (Numbers.D K k (widN k))) (c : Nat) (hc : c ≤ wide k) :
    (Instr.lookup 77 (.map (some b)) (lettersV k c) true).run Tryd.prog w = .ok (.tuple #[.int .i64 (if c = wide k then 0 else (c : Int)), .bool (!decide (c = wide k))]) w := by
  rw [← widN_eq h1 h3] at hc ⊢
  by_cases e : c = widN k
  · rw [if_pos e, decide_eq_true e, e]
    exact look_eq hown (keyV hK k _) 0 false (D_no hK k h1 h3 _ (Nat.le_refl _)).2 (D_no hK k h1 h3 _ (Nat.le_refl _)).1
  · rw [if_neg e, decide_eq_false e]
    exact look_eq hown (keyV hK k _) _ true (D_at hK k h1 h3 c _ (by omega) (Nat.le_refl _)) (D_has hK k h1 h3 c _ (by omega) (Nat.le_refl _))

set_option maxHeartbeats 8000000 in
/-- The rule of reread: where a state leads by the changed column. -/
theorem rule (l : L) (hl : l.Ok) (k2 : Nat) (φ : Nat → Nat) (s c : Nat) (hs : s < l.acc.length) (hφ : φ c ≤ wide l.k) {K : Value → Lit} (hK : Keys K) (b7 b5 b3 mb : Nat) (cf : FuncId) (caps : Array Value) (va vn : Value)
    (hcf : ∀ (args : Array Value) (W : World), (callFunc cf args).run Tryd.prog W = .ok (.enter cf args) W)
    (W : World) (B : Nat) (hB : B ≤ W.heap.size) (hm7 : b7 < B) (hm5 : b5 < B) (hm3 : b3 < B) (hmb : mb < B)
    (h7 : W.cell? ⟨b7, 0, none⟩ = some (.map (some mb))) (h5 : W.cell? ⟨b5, 0, none⟩ = some (.func (.func cf) #[] caps)) (h3 : W.cell? ⟨b3, 3, none⟩ = some vn)
    (hown : W.ownsMap Tryd.prog 82 (plainElem Tryd.prog 2) mb (widN l.k) (Numbers.D K l.k (widN l.k))) (hn : IntRows W B vn (l.nx.map ofN))
    (hch : ∀ W', Below B W W' → Calls Tryd.prog cf (#[lettersV k2 c] ++ caps) W' fun e w' => e = .returned (lettersV l.k (φ c)) ∧ Below W'.heap.size W' w') :
    Calls Tryd.prog 91 #[.int .i64 s, lettersV k2 c, .pointer (some ⟨b7, 0, none⟩), .pointer (some ⟨b5, 0, none⟩), .pointer (some ⟨b3, 0, none⟩)] W fun e w' => e = .returned (.int .i64 (reN l φ s c)) ∧ Below W.heap.size W w' := by
  have HCH := Lib.hid hch
  have HB := Lib.hid hB
  have hk1 := hl.k0
  have hk3 := hl.k3
  obtain ⟨V, hsl, hrows⟩ := hn
  have hlen : (l.nx.map ofN).length = l.acc.length := by rw [List.length_map, hl.len]
  have hrow := hrows s (by rw [hlen]; exact hs)
  have hget : (l.nx.map ofN).getD s [] = ofN (l.nx.getD s []) := by
    have h1 : s < l.nx.length := by rw [hl.len]; exact hs
    simp [List.getD, h1]
  rw [hget] at hrow
  have HS := Lib.hid (fun W' (hb : Below B W W') => (⟨hsl.below hb (Nat.le_refl _), hrow.below hb (Nat.le_refl _)⟩ : Sl W' B vn (l.nx.map ofN).length V ∧ Ints W' B (V s) (ofN (l.nx.getD s []))))
  obtain ⟨an, bn, on, cn, rfl, hmn, han, -⟩ := hsl
  obtain ⟨rfl, hbn⟩ := han (by rw [hlen]; omega)
  have hrl : (ofN (l.nx.getD s [])).length = wide l.k := by rw [ofN_length, hl.row s hs]
  have hw0 : 0 < wide l.k := by have := wide_cases hk1 hk3; omega
  obtain ⟨ar, br, or, cr, hvr, hmr, har, -⟩ := hrow
  rw [hrl] at hvr hmr har
  obtain ⟨rfl, hbr⟩ := har hw0
  rw [hlen] at hmn HS
  have HF := Lib.hid (fun W' (hb : Below B W W') => (show W'.cell? ⟨b7, 0, none⟩ = some (.map (some mb)) ∧ W'.cell? ⟨b5, 0, none⟩ = some (.func (.func cf) #[] caps) ∧ W'.cell? ⟨b3, 3, none⟩ = some (.slice (some ⟨bn, on, none⟩) l.acc.length cn) ∧
      W'.cell? ⟨bn, on + s, none⟩ = some (.slice (some ⟨br, or, none⟩) (wide l.k) cr) ∧ (∀ q, q < wide l.k → W'.cell? ⟨br, or + q, none⟩ = some (.int .i64 ((l.nx.getD s []).getD q 0 : Nat))) from by
    refine ⟨(hb.cell hm7).trans h7, (hb.cell hm5).trans h5, (hb.cell hm3).trans (by rw [h3, hlen]), ?_, fun q hq => ?_⟩
    · obtain ⟨a', b', o', c', e, -, he, hc⟩ := (HS.out W' hb).1
      obtain ⟨e1, -⟩ := he (by omega)
      injection e with e _ _
      rw [e1] at e
      injection e with e
      injection e with e2 e3
      subst e2 e3
      rw [hc s (by omega), hvr]
    · obtain ⟨a', b', o', c', e, -, he, hc⟩ := (HS.out W' hb).2
      rw [hrl] at e he hc
      obtain ⟨e1, -⟩ := he hw0
      rw [hvr] at e
      injection e with e _ _
      rw [e1] at e
      injection e with e
      injection e with e2 e3
      subst e2 e3
      rw [hc q hq]
      show some (Value.int .i64 ((ofN (l.nx.getD s [])).getD q 0)) = _
      rw [ofN_get _ (by rw [hl.row s hs]; exact hq)]))
  have HLK := Lib.hid (fun W' (hb : Below B W W') => look hK l.k hk1 hk3 (ownsMap_of hown (hb.block mb hmb)) (φ c) hφ)
  obtain ⟨y, hy⟩ : ∃ y, y = φ c := ⟨_, rfl⟩
  obtain ⟨m, hm⟩ : ∃ m, m = wide l.k := ⟨_, rfl⟩
  obtain ⟨N, hN⟩ : ∃ N, N = l.acc.length := ⟨_, rfl⟩
  have HRN := Lib.hid (show reN l φ s c = ((if y = m then s else (l.nx.getD s []).getD y 0 : Nat) : Int) by rw [hy, hm]; rfl)
  rw [← hy] at HLK HCH hφ
  rw [← hm] at HLK HF hφ hmr hw0
  rw [← hN] at HF hs hmn
  rw [HRN.out]
  obtain ⟨x0, hx0⟩ : ∃ x, x = letT k2 c 0 := ⟨_, rfl⟩
  obtain ⟨x1, hx1⟩ : ∃ x, x = letT k2 c 1 := ⟨_, rfl⟩
  obtain ⟨x2, hx2⟩ : ∃ x, x = letT k2 c 2 := ⟨_, rfl⟩
  have HCX := Lib.hid (fun W' hb => show Calls Tryd.prog cf (#[.agg #[.int .u8 x0, .int .u8 x1, .int .u8 x2]] ++ caps) W' (fun e w' => e = .returned (lettersV l.k y) ∧ Below W'.heap.size W' w') from by rw [hx0, hx1, hx2]; exact HCH.out W' hb)
  have ev : lettersV k2 c = .agg #[.int .u8 x0, .int .u8 x1, .int .u8 x2] := by rw [hx0, hx1, hx2]; rfl
  rw [ev]
  have HBd := Lib.hid (show Below B W ((W.alloc (.cells #[.int .u8 x0, .int .u8 x1, .int .u8 x2] 82)).drew) from ((Below.refl _ W).alloc hB _).drew)
  have HBz := Lib.hid (show B ≤ ((W.alloc (.cells #[.int .u8 x0, .int .u8 x1, .int .u8 x2] 82)).drew).heap.size by show B ≤ (W.alloc _).heap.size; rw [size_alloc']; omega)
  have HWd := Lib.hid (show Below W.heap.size W ((W.alloc (.cells #[.int .u8 x0, .int .u8 x1, .int .u8 x2] 82)).drew) from ((Below.refl _ W).alloc (Nat.le_refl _) _).drew)
  obtain ⟨q7, q5, -, -, -⟩ := HF.out _ HBd.out
  have k7 : b7 < W.heap.size := by omega
  have k5 : b5 < W.heap.size := by omega
  obtain ⟨v, hv⟩ : ∃ v, v = lettersV l.k y := ⟨_, rfl⟩
  rw [← hv] at HLK HCX
  clear ev hx0 hx1 hx2 HCH HS hrows hvr har han hbn hbr hget hlen hrl h7 h5 h3 hown hK hch HRN hy hm hN hv hB
  go_enter Tryd.func91, Tryd.ntmps91
  by_cases hym : y = m
  · have HLK2 := Lib.hid (fun W' hb => by have h1 := HLK.out W' hb; rw [if_pos hym, decide_eq_true hym] at h1; exact h1)
    have HE := Lib.hid (show ((if y = m then s else (l.nx.getD s []).getD y 0 : Nat) : Int) = s by rw [if_pos hym])
    rw [HE.out]
    go_wp2_with fail
    go_region_with (refine (HCX.out _ HBd.out).mono ?_; rintro e w1 ⟨rfl, hb⟩; have HB1 := Lib.hid (HBd.out.trans (hb.mono HBz.out)); have HW1 := Lib.hid (HWd.out.trans (hb.mono HWd.out.size)); obtain ⟨p7, -, -, -, -⟩ := HF.out w1 HB1.out; have hlk := HLK2.out w1 HB1.out; clear hb)
    all_goals
      go_wp2_with fail
      go_ret
      exact ⟨rfl, HW1.out⟩
  · have hyl : y < m := by omega
    have HLK2 := Lib.hid (fun W' hb => by have h1 := HLK.out W' hb; rw [if_neg hym, decide_eq_false hym] at h1; exact h1)
    have HE := Lib.hid (show ((if y = m then s else (l.nx.getD s []).getD y 0 : Nat) : Int) = ((l.nx.getD s []).getD y 0 : Nat) by rw [if_neg hym])
    rw [HE.out]
    go_wp2_with fail
    go_region_with (refine (HCX.out _ HBd.out).mono ?_; rintro e w1 ⟨rfl, hb⟩; have HB1 := Lib.hid (HBd.out.trans (hb.mono HBz.out)); have HW1 := Lib.hid (HWd.out.trans (hb.mono HWd.out.size)); obtain ⟨p7, -, p3, p9, p10⟩ := HF.out w1 HB1.out; have p11 := p10 y hyl; clear p10; have hlk := HLK2.out w1 HB1.out; clear hb)
    all_goals
      go_wp2_with fail
      go_ret
      exact ⟨rfl, HW1.out⟩
end Go.Proofs.YtcpcbmappcndcaaDoor.Reread
/- errors.As for the program's own error of limits: what it answers for no error and for this error.
   Conditions: stated at each theorem. -/
namespace Go.Proofs.YtcpcbmappcndcaaDoor.ErrAs
set_option linter.unusedVariables false
set_option linter.unusedSimpArgs false
open Go.RowKit Go.Extern.Stop Go.Stop Go.Extern

set_option maxRecDepth 20000
theorem as_nil (t : Value) (w : World) :
    Calls Tryd.prog 76 #[.nilIface, t] w fun e w' => e = .returned (.bool false) ∧ w = w' := by
  go_enter Tryd.func76, Tryd.ntmps76
  go_wp2
  go_ret
  exact ⟨rfl, rfl⟩

theorem valueOfP (t : Addr) (w : World) : (ReflectliteValue.unpack (.iface 95 (.pointer (some t)))).run Tryd.prog w
    = .ok (.agg #[.pointer (some ⟨1, 95, none⟩), .pointer (some ⟨w.heap.size, 0, none⟩), .int .u64 150]) (w.alloc (.cells #[.pointer (some t)] 95)) := by kernel_rfl
theorem typeP (a : Addr) (w : World) : (ReflectliteValue.methodAny (ReflectliteValue.valueError "reflectlite.Value.Type" 0) (fun t _ _ _ => ReflectliteType.toType t) #[.agg #[.pointer (some ⟨1, 95, none⟩), .pointer (some a), .int .u64 150]]).run Tryd.prog w
    = .ok (.iface 125 (.agg #[.pointer (some ⟨1, 95, none⟩)])) w := by kernel_rfl
theorem kindP (w : World) : ((ReflectliteType.abiMethod fun t => (fun a : Nat => Value.int IntKind.u8 (a : Int)) <$> Rtype.kind t) #[.pointer (some ⟨1, 95, none⟩)]).run Tryd.prog w = .ok (.int .u8 22) w := by kernel_rfl
theorem kindE (w : World) : ((ReflectliteType.abiMethod fun t => (fun a : Nat => Value.int IntKind.u8 (a : Int)) <$> Rtype.kind t) #[.pointer (some ⟨1, 74, none⟩)]).run Tryd.prog w = .ok (.int .u8 6) w := by kernel_rfl
theorem rlm (z : Sem Value) (f : TypeId → Addr → Nat → Nat → Sem Value) (v : Value) :
    ReflectliteValue.method z f #[v] = (do match ← ReflectliteValue.parts v with | none => z | some (t, a, fl) => f t a fl (fl % 32)) := rfl
theorem partsP (a : Addr) (w : World) : (ReflectliteValue.parts (.agg #[.pointer (some ⟨1, 95, none⟩), .pointer (some a), .int .u64 150])).run Tryd.prog w = .ok (some (95, a, 150)) w := by kernel_rfl
theorem isNilP (a p : Addr) (W : World) (ha : W.cell? a = some (.pointer (some p))) :
    (ReflectliteValue.method (ReflectliteValue.valueError "reflectlite.Value.IsNil" 0) ReflectliteValue.isNil #[.agg #[.pointer (some ⟨1, 95, none⟩), .pointer (some a), .int .u64 150]]).run Tryd.prog W = .ok (.bool false) W := by
  rw [rlm]
  simp only [Sem.run_bind, partsP, Result.andThen]
  simp [ReflectliteValue.isNil, loadVar, isAgg, underlying, Tryd.underlying95, ha, Result.andThen]
theorem elemP (w : World) : (ReflectliteType.method ReflectliteType.elem #[.agg #[.pointer (some ⟨1, 95, none⟩)]]).run Tryd.prog w = .ok (.iface 125 (.agg #[.pointer (some ⟨1, 74, none⟩)])) w := by kernel_rfl
theorem implementsE (w : World) : (ReflectliteType.relation "Implements" ReflectliteType.implements_ #[.agg #[.pointer (some ⟨1, 74, none⟩)], .iface 125 (.agg #[.pointer (some ⟨1, 56, none⟩)])]).run Tryd.prog w = .ok (.bool true) w := by kernel_rfl
theorem typeOfE (v : Value) (w : World) : (ReflectliteType.typeOf #[.iface 74 v]).run Tryd.prog w = .ok (.iface 125 (.agg #[.pointer (some ⟨1, 74, none⟩)])) w := by kernel_rfl
theorem assignableE (w : World) : (ReflectliteType.relation "AssignableTo" ReflectliteType.assignableTo #[.agg #[.pointer (some ⟨1, 74, none⟩)], .iface 125 (.agg #[.pointer (some ⟨1, 74, none⟩)])]).run Tryd.prog w = .ok (.bool true) w := by kernel_rfl
theorem valueOfE (n : Int) (w : World) : (ReflectliteValue.unpack (.iface 74 (.int .i64 n))).run Tryd.prog w
    = .ok (.agg #[.pointer (some ⟨1, 74, none⟩), .pointer (some ⟨w.heap.size, 0, none⟩), .int .u64 134]) (w.alloc (.cells #[.int .i64 n] 74)) := by kernel_rfl
theorem elemOfP (w : World) : (Rtype.elem? 95).run Tryd.prog w = .ok (some 74) w := by kernel_rfl
theorem mkE (p : Addr) (w : World) : (ReflectliteValue.mk 74 p ReflectliteValue.flagAddr).run Tryd.prog w = .ok (.agg #[.pointer (some ⟨1, 74, none⟩), .pointer (some p), .int .u64 390]) w := by kernel_rfl
theorem elemVP (a p : Addr) (W : World) (ha : W.cell? a = some (.pointer (some p))) :
    (ReflectliteValue.method (ReflectliteValue.valueError "reflectlite.Value.Elem" 0) ReflectliteValue.elem #[.agg #[.pointer (some ⟨1, 95, none⟩), .pointer (some a), .int .u64 150]]).run Tryd.prog W
      = .ok (.agg #[.pointer (some ⟨1, 74, none⟩), .pointer (some p), .int .u64 390]) W := by
  rw [rlm]
  simp only [Sem.run_bind, partsP, Result.andThen]
  simp [ReflectliteValue.elem, loadVar, isAgg, underlying, Tryd.underlying95, ha, Result.andThen, elemOfP, mkE]
theorem partsEa (a : Addr) (w : World) : (ReflectliteValue.parts (.agg #[.pointer (some ⟨1, 74, none⟩), .pointer (some a), .int .u64 390])).run Tryd.prog w = .ok (some (74, a, 390)) w := by kernel_rfl
theorem partsE (a : Addr) (w : World) : (ReflectliteValue.parts (.agg #[.pointer (some ⟨1, 74, none⟩), .pointer (some a), .int .u64 134])).run Tryd.prog w = .ok (some (74, a, 134)) w := by kernel_rfl
theorem directE (w : World) : (Rtype.directlyAssignable 74 74).run Tryd.prog w = .ok true w := by kernel_rfl
theorem methodKind (h : Value) (w : World) : (Go.method 279 125 (.agg #[h]) "Kind").run Tryd.prog w = .ok (113, h) w := by kernel_rfl
theorem methodElem (h : Value) (w : World) : (Go.method 279 125 (.agg #[h]) "Elem").run Tryd.prog w = .ok (123, .agg #[h]) w := by kernel_rfl
theorem methodImplements (h : Value) (w : World) : (Go.method 279 125 (.agg #[h]) "Implements").run Tryd.prog w = .ok (124, .agg #[h]) w := by kernel_rfl
theorem methodAssignableTo (h : Value) (w : World) : (Go.method 279 125 (.agg #[h]) "AssignableTo").run Tryd.prog w = .ok (121, .agg #[h]) w := by kernel_rfl
theorem rls (v x : Value) : ReflectliteValue.set #[v, x] = (do
    let (some (dst, a, fl), some (src, b, _)) := (← ReflectliteValue.parts v, ← ReflectliteValue.parts x)
      | unsupported (.noEntry "extern/(internal/reflectlite.Value).Set.zeroValue")
    if fl / ReflectliteValue.flagAddr % 2 == 0 then unsupported (.noEntry "extern/(internal/reflectlite.Value).Set.unaddressable")
    let val ← loadVar src b
    if ← Rtype.directlyAssignable dst src then storeVar dst a val
    else if ← Rtype.implements dst src then
      if (← Rtype.kind src) == 20 then
        match val with
        | .nilIface => unsupported (.noEntry "extern/reflectlite: a nil value of one interface type handed on as a value of another")
        | _ => storeVar dst a val
      else storeVar dst a (.iface src val)
    else panicString ("reflectlite.Set: value of type " ++ (← Rtype.spelt src) ++ " is not assignable to type " ++ (← Rtype.spelt dst))
    pure (.tuple #[])) := rfl
theorem setE (ta b : Addr) (n : Int) (old : Value) (W : World) (hb : W.cell? b = some (.int .i64 n)) (ht : W.cell? ta = some old) (hf : W.frozen? ta = false) :
    (ReflectliteValue.set #[.agg #[.pointer (some ⟨1, 74, none⟩), .pointer (some ta), .int .u64 390], .agg #[.pointer (some ⟨1, 74, none⟩), .pointer (some b), .int .u64 134]]).run Tryd.prog W
      = .ok (.tuple #[]) (W.setCell ta (.int .i64 n)) := by
  rw [rls]
  simp only [Sem.run_bind, partsEa, partsE, Result.andThen]
  simp [ReflectliteValue.flagAddr, loadVar, isAgg, underlying, Tryd.underlying74, hb, Result.andThen, directE, storeVar, Value.cells, storeCells, Addr.add]
  rw [run_store Tryd.prog W ta _ _ (by rfl)]
  simp [ht, hf]

set_option maxHeartbeats 4000000 in
/-- errors.As at this error, the target being a variable of its type. -/
theorem as_hit (n : Int) (t : Addr) (old : Value) (w : World) (hg : w.cell? ⟨0, 0, none⟩ = some (.iface 125 (.agg #[.pointer (some ⟨1, 56, none⟩)]))) (ht0 : w.cell? t = some old) (hf0 : w.frozen? t = false) :
    Calls Tryd.prog 76 #[.iface 74 (.int .i64 n), .iface 95 (.pointer (some t))] w fun ev w' => ev = .returned (.bool true) ∧
      w' = ((((w.alloc (.cells #[.pointer (some t)] 95)).alloc (.cells #[.pointer (some ⟨1, 95, none⟩), .pointer (some ⟨w.heap.size, 0, none⟩), .int .u64 150] 108)).alloc (.cells #[.pointer (some ⟨1, 95, none⟩), .pointer (some ⟨w.heap.size, 0, none⟩), .int .u64 150] 108)).alloc (.cells #[.int .i64 n] 74)).setCell t (.int .i64 n) := by
  have h6 := @run_callFunc_extern Tryd.prog 83 _ (fun args => ReflectliteValue.unpack (args.getD 0 (.tuple #[]))) Tryd.func83 (by kernel_rfl) (by kernel_rfl) (by kernel_rfl) (by kernel_rfl)
  have h7 := @run_callFunc_extern Tryd.prog 84 _ (ReflectliteValue.methodAny (ReflectliteValue.valueError "reflectlite.Value.Type" 0) (fun t _ _ _ => ReflectliteType.toType t)) Tryd.func84 (by kernel_rfl) (by kernel_rfl) (by kernel_rfl) (by kernel_rfl)
  have h8 := @run_callFunc_extern Tryd.prog 85 _ (ReflectliteValue.method (ReflectliteValue.valueError "reflectlite.Value.IsNil" 0) ReflectliteValue.isNil) Tryd.func85 (by kernel_rfl) (by kernel_rfl) (by kernel_rfl) (by kernel_rfl)
  have h27 := @run_callFunc_extern Tryd.prog 113 _ (ReflectliteType.abiMethod fun t => do pure (.int .u8 (← Rtype.kind t))) Tryd.func113 (by kernel_rfl) (by kernel_rfl) (by kernel_rfl) (by kernel_rfl)
  have h37 := @run_callFunc_extern Tryd.prog 123 _ (ReflectliteType.method ReflectliteType.elem) Tryd.func123 (by kernel_rfl) (by kernel_rfl) (by kernel_rfl) (by kernel_rfl)
  have h38 := @run_callFunc_extern Tryd.prog 124 _ (ReflectliteType.relation "Implements" ReflectliteType.implements_) Tryd.func124 (by kernel_rfl) (by kernel_rfl) (by kernel_rfl) (by kernel_rfl)
  have h10 := @run_callFunc_extern Tryd.prog 92 _ ReflectliteType.typeOf Tryd.func92 (by kernel_rfl) (by kernel_rfl) (by kernel_rfl) (by kernel_rfl)
  have h35 := @run_callFunc_extern Tryd.prog 121 _ (ReflectliteType.relation "AssignableTo" ReflectliteType.assignableTo) Tryd.func121 (by kernel_rfl) (by kernel_rfl) (by kernel_rfl) (by kernel_rfl)
  have h11 := @run_callFunc_extern Tryd.prog 93 _ (ReflectliteValue.method (ReflectliteValue.valueError "reflectlite.Value.Elem" 0) ReflectliteValue.elem) Tryd.func93 (by kernel_rfl) (by kernel_rfl) (by kernel_rfl) (by kernel_rfl)
  have h12 := @run_callFunc_extern Tryd.prog 94 _ ReflectliteValue.set Tryd.func94 (by kernel_rfl) (by kernel_rfl) (by kernel_rfl) (by kernel_rfl)
  have tO := typeOfE
  have mA := methodAssignableTo
  have a25 := assignableE
  have v25 := valueOfE
  have f6 := valueOfP
  have f7 := typeP
  have mK := methodKind
  have mE := methodElem
  have mI := methodImplements
  have k27 := kindP
  have k25 := kindE
  have e27 := elemP
  have i25 := implementsE
  have n8 := isNilP ⟨w.heap.size, 0, none⟩ t ((w.alloc (.cells #[.pointer (some t)] 95)).alloc (.cells #[.pointer (some ⟨1, 95, none⟩), .pointer (some ⟨w.heap.size, 0, none⟩), .int .u64 150] 108)) (by simp)
  have hlt : 0 < w.heap.size := by
    rcases Nat.eq_zero_or_pos w.heap.size with h0 | h
    · simp [World.cell?, h0] at hg
    · exact h
  have hg2 : ((w.alloc (.cells #[.pointer (some t)] 95)).alloc (.cells #[.pointer (some ⟨1, 95, none⟩), .pointer (some ⟨w.heap.size, 0, none⟩), .int .u64 150] 108)).cell? ⟨0, 0, none⟩ = some (.iface 125 (.agg #[.pointer (some ⟨1, 56, none⟩)])) := by
    rw [World.cell?_alloc_lt _ _ ⟨0, 0, none⟩ (by simp), World.cell?_alloc_lt _ _ ⟨0, 0, none⟩ hlt]; exact hg
  have htl : t.block < w.heap.size := by
    rcases Nat.lt_or_ge t.block w.heap.size with h | h
    · exact h
    · simp [World.cell?, Array.getElem?_eq_none h] at ht0
  have el := elemVP ⟨w.heap.size, 0, none⟩ t (((w.alloc (.cells #[.pointer (some t)] 95)).alloc (.cells #[.pointer (some ⟨1, 95, none⟩), .pointer (some ⟨w.heap.size, 0, none⟩), .int .u64 150] 108)).alloc (.cells #[.pointer (some ⟨1, 95, none⟩), .pointer (some ⟨w.heap.size, 0, none⟩), .int .u64 150] 108)) (by rw [World.cell?_alloc_lt _ _ ⟨w.heap.size, 0, none⟩ (by simp; omega)]; simp)
  have st := setE t ⟨w.heap.size + 1 + 1 + 1, 0, none⟩ n old ((((w.alloc (.cells #[.pointer (some t)] 95)).alloc (.cells #[.pointer (some ⟨1, 95, none⟩), .pointer (some ⟨w.heap.size, 0, none⟩), .int .u64 150] 108)).alloc (.cells #[.pointer (some ⟨1, 95, none⟩), .pointer (some ⟨w.heap.size, 0, none⟩), .int .u64 150] 108)).alloc (.cells #[.int .i64 n] 74))
    (by rw [World.cell?_alloc_at _ _ _ _ (by simp)]; rfl)
    (by rw [World.cell?_alloc_lt _ _ t (by simp; omega), World.cell?_alloc_lt _ _ t (by simp; omega), World.cell?_alloc_lt _ _ t (by simp; omega), World.cell?_alloc_lt _ _ t htl]; exact ht0)
    (by rw [World.frozen?_alloc_old _ _ t (by simp; omega), World.frozen?_alloc_old _ _ t (by simp; omega), World.frozen?_alloc_old _ _ t (by simp; omega), World.frozen?_alloc_old _ _ t (Nat.ne_of_lt htl)]; exact hf0)
  go_enter Tryd.func76, Tryd.ntmps76
  go_wp2
  refine wp_loop_rounds 1 ?_
  rw [rounds_succ]
  go_wp2
  go_ret
  exact ⟨rfl, rfl⟩
end Go.Proofs.YtcpcbmappcndcaaDoor.ErrAs
