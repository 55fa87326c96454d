
/- What the model's TidyRelation answers: a relation in memory of its own, and a code.
   Conditions: the relation is read as XRel's text says. -/
import Derived.Test.YtgaipjofhkijbaaDoorIM12
import Derived.Test.YtgaipjofhkijbaaDoorIM14
import Derived.Test.YtgaipjofhkijbaaDoorIM9
import Derived.Maps.Own
import Derived.Maps.OwnOps
import Derived.Maps.OwnSet
import Derived.DeepKeys5
import Derived.Test.YtgaipjofhkijbaaDoorIM10
import Derived.Deep.RegionWith
namespace Go.Proofs.YtgaipjofhkijbaaDoor.SpecTidyRel
set_option linter.unusedVariables false
set_option linter.unusedSimpArgs false
open Go.RowKit Mem Copy Rel Valid Heap Columns TidyAuto TidyRight SpecRight SpecTidied SpecTold ToL Bld

end Go.Proofs.YtgaipjofhkijbaaDoor.SpecTidyRel
/- The program's map from letters to columns: what it holds.
   Conditions: one to three tapes. -/
namespace Go.Proofs.YtgaipjofhkijbaaDoor.Numbers
set_option linter.unusedVariables false
set_option linter.unusedSimpArgs false
set_option maxRecDepth 100000
open Go.RowKit Go.Maps Columns ColMath

theorem laidOut : laidOutB Tryd.prog = true := by kernel_rfl
theorem law : Keyed Tryd.prog 80 := Keyed.of_law (deep_law_gate laidOut (of_decide_eq_true (by kernel_rfl)) (of_decide_eq_true (by kernel_rfl)) (by kernel_rfl) (by kernel_rfl))
theorem zero2 (w : World) : (zeroValue 2).run Tryd.prog w = .ok (.int .i64 0) w := by kernel_rfl

/-- Whatever three letters are a key. -/
theorem key_some (a b c : Int) (ha : a = 97 ∨ a = 98 ∨ a = 35) (hb : b = 97 ∨ b = 98 ∨ b = 35) (hc : c = 97 ∨ c = 98 ∨ c = 35) :
    (keyOf Tryd.prog 80 (.agg #[.int .u8 a, .int .u8 b, .int .u8 c])).isSome = true := by
  rcases ha with rfl | rfl | rfl <;> rcases hb with rfl | rfl | rfl <;> rcases hc with rfl | rfl | rfl
  all_goals (exact (by kernel_rfl))

/-- A choice of what the letters of a column read as, where they are keys. -/
def Keys (K : Value → Lit) : Prop := ∀ a b c : Int, (a = 97 ∨ a = 98 ∨ a = 35) → (b = 97 ∨ b = 98 ∨ b = 35) → (c = 97 ∨ c = 98 ∨ c = 35) →
  keyOf Tryd.prog 80 (.agg #[.int .u8 a, .int .u8 b, .int .u8 c]) = some (K (.agg #[.int .u8 a, .int .u8 b, .int .u8 c]))

theorem keys_are : ∃ K, Keys K := by
  refine ⟨fun v => (keyOf Tryd.prog 80 v).getD (.bool false), fun a b c ha hb hc => ?_⟩
  have h := key_some a b c ha hb hc
  cases hk : keyOf Tryd.prog 80 (.agg #[.int .u8 a, .int .u8 b, .int .u8 c]) with
  | none => rw [hk] at h; cases h
  | some l =>
    show some l = some ((keyOf Tryd.prog 80 _).getD (.bool false))
    rw [hk]; rfl

theorem keyV {K : Value → Lit} (hK : Keys K) (n : Nat) (c : Int) : keyOf Tryd.prog 80 (lettersV n c) = some (K (lettersV n c)) :=
  hK _ _ _ (letT_cases n c 0) (letT_cases n c 1) (letT_cases n c 2)

/-- The map's content behind k rounds. -/
def D (K : Value → Lit) (n : Nat) : Nat → DataW Unit
  | 0 => .map []
  | k + 1 => (D K n k).put (K (lettersV n k)) (.lit (.int .i64 k))

theorem ownsMap_of {w w' : World} {b m : Nat} {d : DataW Unit} (h : w.ownsMap Tryd.prog 80 (plainElem Tryd.prog 2) b m d) (e : w'.heap[b]? = w.heap[b]?) :
    w'.ownsMap Tryd.prog 80 (plainElem Tryd.prog 2) b m d := by
  obtain ⟨es, clock, hb, F, hs, hD⟩ := h
  exact ⟨es, clock, e.trans hb, F, hs, hD⟩


set_option maxHeartbeats 1000000 in
theorem numbers (K : Value → Lit) (hK : Keys K) (n : Nat) (h1 : 1 ≤ n) (h3 : n ≤ 3) (w : World) :
    Calls Tryd.prog 77 #[.int .i64 n] w fun e w' => e = .returned (.map (some w.heap.size)) ∧
      w'.ownsMap Tryd.prog 80 (plainElem Tryd.prog 2) w.heap.size (widN n) (D K n (widN n)) ∧ Below w.heap.size w w' ∧ w.heap.size < w'.heap.size := by
  have hmm := @run_makeMap Tryd.prog
  have hwid : widthOf n = (widN n : Int) := by
    have : n = 1 ∨ n = 2 ∨ n = 3 := by omega
    rcases this with rfl | rfl | rfl <;> rfl
  have hw26 : widN n ≤ 26 := by unfold widN; split <;> (try split) <;> omega
  have HC := Lib.hid (hwid ▸ countAny n (by omega) (by omega))
  have HL := Lib.hid (fun c h0 hc W => lettersAny n h1 h3 c h0 hc W)
  obtain ⟨q, hq⟩ : ∃ q, q = widN n := ⟨_, rfl⟩
  rw [← hq] at HC hw26
  rw [← hq]
  have HKK := Lib.hid hK
  clear hwid hq h1 h3 hK
  go_enter Tryd.func77, Tryd.ntmps77
  go_wp2_with (go_at_call 58; refine (HC.out _).mono ?_; rintro e w' ⟨rfl, rfl⟩)
  go_loopw [8] (fun i wr => ∃ k : Nat, k ≤ q ∧ i = .int .i64 k ∧ wr.ownsMap Tryd.prog 80 (plainElem Tryd.prog 2) w.heap.size k (D K n k) ∧ Below w.heap.size w wr ∧ w.heap.size < wr.heap.size) (fun i _ => q - (intOf i).toNat)
  case atStart => exact ⟨0, Nat.zero_le _, rfl, World.ownsMap_made _ _ _ _, (Below.refl _ _).alloc (Nat.le_refl _) _, by simp⟩
  case round =>
    obtain ⟨k, hk, rfl, hown, hbel, hsz⟩ := hrel
    have HO := Lib.hid hown
    have HB := Lib.hid hbel
    have HS := Lib.hid hsz
    clear hown hbel hsz
    by_cases hlt : k < q
    · go_wp2_with fail
      refine (HL.out k (by omega) (by omega) _).mono ?_
      rintro e w1 ⟨rfl, hg⟩
      have hb := hg
      have HO1 := Lib.hid (ownsMap_of HO.out (hb.block _ HS.out))
      have HB1 := Lib.hid (HB.out.trans (hb.mono (Nat.le_of_lt HS.out)))
      have HS1 := Lib.hid (Nat.lt_of_lt_of_le HS.out hb.size)
      have HK := Lib.hid (keyV HKK.out n k)
      clear hb hg
      go_wp2_with (at_mapUpdate; refine wpList_mapUpdate_own _ rfl _ _ _ 93 rfl 80 2 law Tryd.underlying93 _ w.heap.size k _ rfl HO1.out (by unfold maxLen; omega) _ _ _ rfl rfl HK.out _ [] (plainElem_int Tryd.underlying2 (WalkArith.wf_i64 (by omega))) ?_; intro w2 hown2 hgrow2; have HO2 := Lib.hid hown2; have HG2 := Lib.hid hgrow2; clear hown2 hgrow2)
      go_roundw
      case rel =>
        refine ⟨k + 1, by omega, by go_num, (show D K n (k + 1) = (D K n k).put (K (lettersV n k)) (.lit (.int .i64 k)) from rfl) ▸ HO2.out, HB1.out.grown HG2.out (Nat.le_of_lt HS1.out) (fun j hj => by cases hj; exact Nat.le_refl _), Nat.lt_of_lt_of_le HS1.out HG2.out.size⟩
      case measure => simp [intOf]; omega
    · have hkq : k = q := by omega
      subst hkq
      go_wp2
      go_ret
      exact ⟨rfl, HO.out, HB.out, HS.out⟩

theorem D_isMap (K : Value → Lit) (n : Nat) : ∀ m, IsMap (D K n m)
  | 0 => isMap_empty
  | m + 1 => (D_isMap K n m).put _ _

theorem D_at {K : Value → Lit} (hK : Keys K) (n : Nat) (h1 : 1 ≤ n) (h3 : n ≤ 3) (c : Nat) : ∀ m, c < m → m ≤ widN n → (D K n m).atKey (K (lettersV n c)) (.lit (.int .i64 0)) = .lit (.int .i64 c)
  | 0, h, _ => absurd h (Nat.not_lt_zero c)
  | m + 1, h, hm => by
    show ((D K n m).put (K (lettersV n m)) (.lit (.int .i64 m))).atKey (K (lettersV n c)) (.lit (.int .i64 0)) = _
    by_cases e : c = m
    · subst e
      exact atKey_put_same (D_isMap K n c) (law.key (keyV hK n c)) _ _
    · rw [atKey_put_other (fun e' => ?_)]
      · exact D_at hK n h1 h3 c m (by omega) (by omega)
      · have h2 : keyOf Tryd.prog 80 (lettersV n c) = some (K (lettersV n m)) := by rw [keyV hK n c, e']
        exact e (lettersV_inj n h1 h3 c m (by omega) (by omega) (law.inj h2 (keyV hK n m)))

end Go.Proofs.YtgaipjofhkijbaaDoor.Numbers
/- What the program's reread hands back: the automaton that reads changed columns.
   Conditions: stated at each theorem. -/
namespace Go.Proofs.YtgaipjofhkijbaaDoor.Reread
set_option linter.unusedVariables false
set_option linter.unusedSimpArgs false
set_option maxRecDepth 100000
open Go.RowKit Go.Maps Mem Copy Rel Valid Heap Bld Columns ColMath SpecFiner Numbers TidyMath TidyRight SpecRight Automaton TapeMath

theorem look_eq {w : World} {b n : Nat} {D : DataW Unit} {key : Value} {kl : Lit} (hown : w.ownsMap Tryd.prog 80 (plainElem Tryd.prog 2) b n D) (hkey : keyOf Tryd.prog 80 key = some kl) (c0 : Int) (bb : Bool)
    (hat : D.atKey kl (.lit (.int .i64 0)) = .lit (.int .i64 c0)) (hhas : Maps.has D kl = bb) :
    (Instr.lookup 93 (.map (some b)) key true).run Tryd.prog w = .ok (.tuple #[.int .i64 c0, .bool bb]) w := by
  obtain ⟨v, ps, hrun, hv⟩ := hown.look_ok law Tryd.underlying93 (zero2 w) (plainElem_int Tryd.underlying2 (by decide)) hkey
  obtain ⟨c, rfl, hc, hwc⟩ := plainElem_int_inv Tryd.underlying2 hv
  rw [hat] at hc
  have h1 := congrArg Prod.fst hc
  injection h1 with h1
  injection h1 with _ h1
  rw [hrun, hhas, h1]

theorem some_letter : ∀ n, n < 4 → 1 ≤ n → ∀ c, c < widN n → ¬ (letT n c 0 = 35 ∧ letT n c 1 = 35 ∧ letT n c 2 = 35) := by decide +kernel
theorem no_letter : ∀ n, n < 4 → 1 ≤ n → letT n (widN n : Nat) 0 = 35 ∧ letT n (widN n : Nat) 1 = 35 ∧ letT n (widN n : Nat) 2 = 35 := by decide +kernel
theorem pads_ne (n : Nat) (h1 : 1 ≤ n) (h3 : n ≤ 3) (c : Nat) (hc : c < widN n) : lettersV n c ≠ lettersV n (widN n : Nat) := fun h => by
  unfold lettersV at h
  simp only [Value.agg.injEq] at h
  have h := congrArg Array.toList h
  simp only [List.cons.injEq, Value.int.injEq, true_and, and_true] at h
  obtain ⟨e0, e1, e2⟩ := h
  obtain ⟨p0, p1, p2⟩ := no_letter n (by omega) h1
  exact some_letter n (by omega) h1 c hc ⟨e0.trans p0, e1.trans p1, e2.trans p2⟩
theorem D_has {K : Value → Lit} (hK : Keys K) (n : Nat) (h1 : 1 ≤ n) (h3 : n ≤ 3) (c : Nat) : ∀ m, c < m → m ≤ widN n → Maps.has (Numbers.D K n m) (K (lettersV n c)) = true
  | 0, h, _ => absurd h (Nat.not_lt_zero c)
  | m + 1, h, hm => by
    show Maps.has ((Numbers.D K n m).put (K (lettersV n m)) (.lit (.int .i64 m))) (K (lettersV n c)) = true
    by_cases e : c = m
    · subst e
      exact has_put_same (D_isMap K n c) (law.key (keyV hK n c)) _
    · rw [has_put_other (fun e' => ?_)]
      · exact D_has hK n h1 h3 c m (by omega) (by omega)
      · have h2 : keyOf Tryd.prog 80 (lettersV n c) = some (K (lettersV n m)) := by rw [keyV hK n c, e']
        exact e (lettersV_inj n h1 h3 c m (by omega) (by omega) (law.inj h2 (keyV hK n m)))
theorem D_no {K : Value → Lit} (hK : Keys K) (n : Nat) (h1 : 1 ≤ n) (h3 : n ≤ 3) : ∀ m, m ≤ widN n → Maps.has (Numbers.D K n m) (K (lettersV n (widN n : Nat))) = false ∧ (Numbers.D K n m).atKey (K (lettersV n (widN n : Nat))) (.lit (.int .i64 0)) = .lit (.int .i64 0)
  | 0, _ => ⟨by simp [Numbers.D, Maps.has], rfl⟩
  | m + 1, hm => by
    have hne : K (lettersV n (widN n : Nat)) ≠ K (lettersV n m) := fun e' => by
      have h2 : keyOf Tryd.prog 80 (lettersV n (widN n : Nat)) = some (K (lettersV n m)) := by rw [keyV hK n (widN n : Nat), e']
      exact pads_ne n h1 h3 m (by omega) (law.inj h2 (keyV hK n m)).symm
    obtain ⟨i1, i2⟩ := D_no hK n h1 h3 m (by omega)
    constructor
    · show Maps.has ((Numbers.D K n m).put (K (lettersV n m)) (.lit (.int .i64 m))) _ = false
      rw [has_put_other hne]; exact i1
    · show ((Numbers.D K n m).put (K (lettersV n m)) (.lit (.int .i64 m))).atKey _ _ = _
      rw [atKey_put_other hne]; exact i2
theorem widN_eq {k : Nat} (h1 : 1 ≤ k) (h3 : k ≤ 3) : widN k = wide k := by
  have : k = 1 ∨ k = 2 ∨ k = 3 := by omega
  rcases this with rfl | rfl | rfl <;> rfl
/-- What is found for the letters of a column, or of pads alone. -/
theorem look {K : Value → Lit} (hK : Keys K) (k : Nat) (h1 : 1 ≤ k) (h3 : k ≤ 3) {w : World} {b : Nat} (hown : w.ownsMap Tryd.prog 80 (plainElem Tryd.prog 2) b (widN k) (Numbers.D K k (widN k))) (c : Nat) (hc : c ≤ wide k) :
    (Instr.lookup 93 (.map (some b)) (lettersV k c) true).run Tryd.prog w = .ok (.tuple #[.int .i64 (if c = wide k then 0 else (c : Int)), .bool (!decide (c = wide k))]) w := by
  rw [← widN_eq h1 h3] at hc ⊢
  by_cases e : c = widN k
  · rw [if_pos e, decide_eq_true e, e]
    exact look_eq hown (keyV hK k _) 0 false (D_no hK k h1 h3 _ (Nat.le_refl _)).2 (D_no hK k h1 h3 _ (Nat.le_refl _)).1
  · rw [if_neg e, decide_eq_false e]
    exact look_eq hown (keyV hK k _) _ true (D_at hK k h1 h3 c _ (by omega) (Nat.le_refl _)) (D_has hK k h1 h3 c _ (by omega) (Nat.le_refl _))

set_option maxHeartbeats 8000000 in
/-- The rule of reread: where a state leads by the changed column. -/
theorem rule (l : L) (hl : l.Ok) (k2 : Nat) (φ : Nat → Nat) (s c : Nat) (hs : s < l.acc.length) (hφ : φ c ≤ wide l.k) {K : Value → Lit} (hK : Keys K) (b7 b5 b3 mb : Nat) (cf : FuncId) (caps : Array Value) (va vn : Value)
    (hcf : ∀ (args : Array Value) (W : World), (callFunc cf args).run Tryd.prog W = .ok (.enter cf args) W)
    (W : World) (B : Nat) (hB : B ≤ W.heap.size) (hm7 : b7 < B) (hm5 : b5 < B) (hm3 : b3 < B) (hmb : mb < B)
    (h7 : W.cell? ⟨b7, 0, none⟩ = some (.map (some mb))) (h5 : W.cell? ⟨b5, 0, none⟩ = some (.func (.func cf) #[] caps)) (h3 : W.cell? ⟨b3, 3, none⟩ = some vn)
    (hown : W.ownsMap Tryd.prog 80 (plainElem Tryd.prog 2) mb (widN l.k) (Numbers.D K l.k (widN l.k))) (hn : IntRows W B vn (l.nx.map ofN))
    (hch : ∀ W', Below B W W' → Calls Tryd.prog cf (#[lettersV k2 c] ++ caps) W' fun e w' => e = .returned (lettersV l.k (φ c)) ∧ Below W'.heap.size W' w') :
    Calls Tryd.prog 82 #[.int .i64 s, lettersV k2 c, .pointer (some ⟨b7, 0, none⟩), .pointer (some ⟨b5, 0, none⟩), .pointer (some ⟨b3, 0, none⟩)] W fun e w' => e = .returned (.int .i64 (reN l φ s c)) ∧ Below W.heap.size W w' := by
  have HCH := Lib.hid hch
  have HB := Lib.hid hB
  have hk1 := hl.k0
  have hk3 := hl.k3
  obtain ⟨V, hsl, hrows⟩ := hn
  have hlen : (l.nx.map ofN).length = l.acc.length := by rw [List.length_map, hl.len]
  have hrow := hrows s (by rw [hlen]; exact hs)
  have hget : (l.nx.map ofN).getD s [] = ofN (l.nx.getD s []) := by
    have h1 : s < l.nx.length := by rw [hl.len]; exact hs
    simp [List.getD, h1]
  rw [hget] at hrow
  have HS := Lib.hid (fun W' (hb : Below B W W') => (⟨hsl.below hb (Nat.le_refl _), hrow.below hb (Nat.le_refl _)⟩ : Sl W' B vn (l.nx.map ofN).length V ∧ Ints W' B (V s) (ofN (l.nx.getD s []))))
  obtain ⟨an, bn, on, cn, rfl, hmn, han, -⟩ := hsl
  obtain ⟨rfl, hbn⟩ := han (by rw [hlen]; omega)
  have hrl : (ofN (l.nx.getD s [])).length = wide l.k := by rw [ofN_length, hl.row s hs]
  have hw0 : 0 < wide l.k := by have := wide_cases hk1 hk3; omega
  obtain ⟨ar, br, or, cr, hvr, hmr, har, -⟩ := hrow
  rw [hrl] at hvr hmr har
  obtain ⟨rfl, hbr⟩ := har hw0
  rw [hlen] at hmn HS
  have HF := Lib.hid (fun W' (hb : Below B W W') => (show W'.cell? ⟨b7, 0, none⟩ = some (.map (some mb)) ∧ W'.cell? ⟨b5, 0, none⟩ = some (.func (.func cf) #[] caps) ∧ W'.cell? ⟨b3, 3, none⟩ = some (.slice (some ⟨bn, on, none⟩) l.acc.length cn) ∧
      W'.cell? ⟨bn, on + s, none⟩ = some (.slice (some ⟨br, or, none⟩) (wide l.k) cr) ∧ (∀ q, q < wide l.k → W'.cell? ⟨br, or + q, none⟩ = some (.int .i64 ((l.nx.getD s []).getD q 0 : Nat))) from by
    refine ⟨(hb.cell hm7).trans h7, (hb.cell hm5).trans h5, (hb.cell hm3).trans (by rw [h3, hlen]), ?_, fun q hq => ?_⟩
    · obtain ⟨a', b', o', c', e, -, he, hc⟩ := (HS.out W' hb).1
      obtain ⟨e1, -⟩ := he (by omega)
      injection e with e _ _
      rw [e1] at e
      injection e with e
      injection e with e2 e3
      subst e2 e3
      rw [hc s (by omega), hvr]
    · obtain ⟨a', b', o', c', e, -, he, hc⟩ := (HS.out W' hb).2
      rw [hrl] at e he hc
      obtain ⟨e1, -⟩ := he hw0
      rw [hvr] at e
      injection e with e _ _
      rw [e1] at e
      injection e with e
      injection e with e2 e3
      subst e2 e3
      rw [hc q hq]
      show some (Value.int .i64 ((ofN (l.nx.getD s [])).getD q 0)) = _
      rw [ofN_get _ (by rw [hl.row s hs]; exact hq)]))
  have HLK := Lib.hid (fun W' (hb : Below B W W') => look hK l.k hk1 hk3 (ownsMap_of hown (hb.block mb hmb)) (φ c) hφ)
  obtain ⟨y, hy⟩ : ∃ y, y = φ c := ⟨_, rfl⟩
  obtain ⟨m, hm⟩ : ∃ m, m = wide l.k := ⟨_, rfl⟩
  obtain ⟨N, hN⟩ : ∃ N, N = l.acc.length := ⟨_, rfl⟩
  have HRN := Lib.hid (show reN l φ s c = ((if y = m then s else (l.nx.getD s []).getD y 0 : Nat) : Int) by rw [hy, hm]; rfl)
  rw [← hy] at HLK HCH hφ
  rw [← hm] at HLK HF hφ hmr hw0
  rw [← hN] at HF hs hmn
  rw [HRN.out]
  obtain ⟨x0, hx0⟩ : ∃ x, x = letT k2 c 0 := ⟨_, rfl⟩
  obtain ⟨x1, hx1⟩ : ∃ x, x = letT k2 c 1 := ⟨_, rfl⟩
  obtain ⟨x2, hx2⟩ : ∃ x, x = letT k2 c 2 := ⟨_, rfl⟩
  have HCX := Lib.hid (fun W' hb => show Calls Tryd.prog cf (#[.agg #[.int .u8 x0, .int .u8 x1, .int .u8 x2]] ++ caps) W' (fun e w' => e = .returned (lettersV l.k y) ∧ Below W'.heap.size W' w') from by rw [hx0, hx1, hx2]; exact HCH.out W' hb)
  have ev : lettersV k2 c = .agg #[.int .u8 x0, .int .u8 x1, .int .u8 x2] := by rw [hx0, hx1, hx2]; rfl
  rw [ev]
  have HBd := Lib.hid (show Below B W ((W.alloc (.cells #[.int .u8 x0, .int .u8 x1, .int .u8 x2] 80)).drew) from ((Below.refl _ W).alloc hB _).drew)
  have HBz := Lib.hid (show B ≤ ((W.alloc (.cells #[.int .u8 x0, .int .u8 x1, .int .u8 x2] 80)).drew).heap.size by show B ≤ (W.alloc _).heap.size; rw [size_alloc']; omega)
  have HWd := Lib.hid (show Below W.heap.size W ((W.alloc (.cells #[.int .u8 x0, .int .u8 x1, .int .u8 x2] 80)).drew) from ((Below.refl _ W).alloc (Nat.le_refl _) _).drew)
  obtain ⟨q7, q5, -, -, -⟩ := HF.out _ HBd.out
  have k7 : b7 < W.heap.size := by omega
  have k5 : b5 < W.heap.size := by omega
  obtain ⟨v, hv⟩ : ∃ v, v = lettersV l.k y := ⟨_, rfl⟩
  rw [← hv] at HLK HCX
  clear ev hx0 hx1 hx2 HCH HS hrows hvr har han hbn hbr hget hlen hrl h7 h5 h3 hown hK hch HRN hy hm hN hv hB
  go_enter Tryd.func82, Tryd.ntmps82
  by_cases hym : y = m
  · have HLK2 := Lib.hid (fun W' hb => by have h1 := HLK.out W' hb; rw [if_pos hym, decide_eq_true hym] at h1; exact h1)
    have HE := Lib.hid (show ((if y = m then s else (l.nx.getD s []).getD y 0 : Nat) : Int) = s by rw [if_pos hym])
    rw [HE.out]
    go_wp2_with fail
    go_region_with (refine (HCX.out _ HBd.out).mono ?_; rintro e w1 ⟨rfl, hb⟩; have HB1 := Lib.hid (HBd.out.trans (hb.mono HBz.out)); have HW1 := Lib.hid (HWd.out.trans (hb.mono HWd.out.size)); obtain ⟨p7, -, -, -, -⟩ := HF.out w1 HB1.out; have hlk := HLK2.out w1 HB1.out; clear hb)
    all_goals
      go_wp2_with fail
      go_ret
      exact ⟨rfl, HW1.out⟩
  · have hyl : y < m := by omega
    have HLK2 := Lib.hid (fun W' hb => by have h1 := HLK.out W' hb; rw [if_neg hym, decide_eq_false hym] at h1; exact h1)
    have HE := Lib.hid (show ((if y = m then s else (l.nx.getD s []).getD y 0 : Nat) : Int) = ((l.nx.getD s []).getD y 0 : Nat) by rw [if_neg hym])
    rw [HE.out]
    go_wp2_with fail
    go_region_with (refine (HCX.out _ HBd.out).mono ?_; rintro e w1 ⟨rfl, hb⟩; have HB1 := Lib.hid (HBd.out.trans (hb.mono HBz.out)); have HW1 := Lib.hid (HWd.out.trans (hb.mono HWd.out.size)); obtain ⟨p7, -, p3, p9, p10⟩ := HF.out w1 HB1.out; have p11 := p10 y hyl; clear p10; have hlk := HLK2.out w1 HB1.out; clear hb)
    all_goals
      go_wp2_with fail
      go_ret
      exact ⟨rfl, HW1.out⟩
end Go.Proofs.YtgaipjofhkijbaaDoor.Reread
