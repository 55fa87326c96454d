
/- What the program's reread hands back: the automaton that reads changed columns.
   Conditions: stated at each theorem. -/
import Derived.Test.YtaimealknkhfbaaDoorRB14
import Derived.Test.YtaimealknkhfbaaDoorRB10
import Derived.Deep.RegionWith
import Derived.Test.YtaimealknkhfbaaDoorRows
import Derived.WalkKit
import Derived.LaidEql
import Derived.Stop.Asserts
import Derived.RowKitTokens
import Derived.Lib.Hide
namespace Go.Proofs.YtaimealknkhfbaaDoor.Reread
set_option linter.unusedVariables false
set_option linter.unusedSimpArgs false
set_option maxRecDepth 100000
open Go.RowKit Go.Maps Mem Copy Rel Valid Heap Bld Columns ColMath SpecFiner Numbers TidyMath TidyRight SpecRight Automaton TapeMath

theorem look_eq {w : World} {b n : Nat} {D : DataW Unit} {key : Value} {kl : Lit} (hown : w.ownsMap Tryd.prog 75 (plainElem Tryd.prog 2) b n D) (hkey : keyOf Tryd.prog 75 key = some kl) (c0 : Int) (bb : Bool)
    (hat : D.atKey kl (.lit (.int .i64 0)) = .lit (.int .i64 c0)) (hhas : Maps.has D kl = bb) :
    (Instr.lookup 97 (.map (some b)) key true).run Tryd.prog w = .ok (.tuple #[.int .i64 c0, .bool bb]) w := by
  obtain ⟨v, ps, hrun, hv⟩ := hown.look_ok law Tryd.underlying97 (zero2 w) (plainElem_int Tryd.underlying2 (by decide)) hkey
  obtain ⟨c, rfl, hc, hwc⟩ := plainElem_int_inv Tryd.underlying2 hv
  rw [hat] at hc
  have h1 := congrArg Prod.fst hc
  injection h1 with h1
  injection h1 with _ h1
  rw [hrun, hhas, h1]

theorem some_letter : ∀ n, n < 4 → 1 ≤ n → ∀ c, c < widN n → ¬ (letT n c 0 = 35 ∧ letT n c 1 = 35 ∧ letT n c 2 = 35) := by decide +kernel
theorem no_letter : ∀ n, n < 4 → 1 ≤ n → letT n (widN n : Nat) 0 = 35 ∧ letT n (widN n : Nat) 1 = 35 ∧ letT n (widN n : Nat) 2 = 35 := by decide +kernel
theorem pads_ne (n : Nat) (h1 : 1 ≤ n) (h3 : n ≤ 3) (c : Nat) (hc : c < widN n) : lettersV n c ≠ lettersV n (widN n : Nat) := fun h => by
  unfold lettersV at h
  simp only [Value.agg.injEq] at h
  have h := congrArg Array.toList h
  simp only [List.cons.injEq, Value.int.injEq, true_and, and_true] at h
  obtain ⟨e0, e1, e2⟩ := h
  obtain ⟨p0, p1, p2⟩ := no_letter n (by omega) h1
  exact some_letter n (by omega) h1 c hc ⟨e0.trans p0, e1.trans p1, e2.trans p2⟩
theorem D_has {K : Value → Lit} (hK : Keys K) (n : Nat) (h1 : 1 ≤ n) (h3 : n ≤ 3) (c : Nat) : ∀ m, c < m → m ≤ widN n → Maps.has (Numbers.D K n m) (K (lettersV n c)) = true
  | 0, h, _ => absurd h (Nat.not_lt_zero c)
  | m + 1, h, hm => by
    show Maps.has ((Numbers.D K n m).put (K (lettersV n m)) (.lit (.int .i64 m))) (K (lettersV n c)) = true
    by_cases e : c = m
    · subst e
      exact has_put_same (D_isMap K n c) (law.key (keyV hK n c)) _
    · rw [has_put_other (fun e' => ?_)]
      · exact D_has hK n h1 h3 c m (by omega) (by omega)
      · have h2 : keyOf Tryd.prog 75 (lettersV n c) = some (K (lettersV n m)) := by rw [keyV hK n c, e']
        exact e (lettersV_inj n h1 h3 c m (by omega) (by omega) (law.inj h2 (keyV hK n m)))
theorem D_no {K : Value → Lit} (hK : Keys K) (n : Nat) (h1 : 1 ≤ n) (h3 : n ≤ 3) : ∀ m, m ≤ widN n → Maps.has (Numbers.D K n m) (K (lettersV n (widN n : Nat))) = false ∧ (Numbers.D K n m).atKey (K (lettersV n (widN n : Nat))) (.lit (.int .i64 0)) = .lit (.int .i64 0)
  | 0, _ => ⟨by simp [Numbers.D, Maps.has], rfl⟩
  | m + 1, hm => by
    have hne : K (lettersV n (widN n : Nat)) ≠ K (lettersV n m) := fun e' => by
      have h2 : keyOf Tryd.prog 75 (lettersV n (widN n : Nat)) = some (K (lettersV n m)) := by rw [keyV hK n (widN n : Nat), e']
      exact pads_ne n h1 h3 m (by omega) (law.inj h2 (keyV hK n m)).symm
    obtain ⟨i1, i2⟩ := D_no hK n h1 h3 m (by omega)
    constructor
    · show Maps.has ((Numbers.D K n m).put (K (lettersV n m)) (.lit (.int .i64 m))) _ = false
      rw [has_put_other hne]; exact i1
    · show ((Numbers.D K n m).put (K (lettersV n m)) (.lit (.int .i64 m))).atKey _ _ = _
      rw [atKey_put_other hne]; exact i2
theorem widN_eq {k : Nat} (h1 : 1 ≤ k) (h3 : k ≤ 3) : widN k = wide k := by
  have : k = 1 ∨ k = 2 ∨ k = 3 := by omega
  rcases this with rfl | rfl | rfl <;> rfl
/-- What is found for the letters of a column, or of pads alone. -/
theorem look {K : Value → Lit} (hK : Keys K) (k : Nat) (h1 : 1 ≤ k) (h3 : k ≤ 3) {w : World} {b : Nat} (hown : w.ownsMap Tryd.prog 75 (plainElem Tryd.prog 2) b (widN k) (Numbers.D K k (widN k))) (c : Nat) (hc : c ≤ wide k) :
    (Instr.lookup 97 (.map (some b)) (lettersV k c) true).run Tryd.prog w = .ok (.tuple #[.int .i64 (if c = wide k then 0 else (c : Int)), .bool (!decide (c = wide k))]) w := by
  rw [← widN_eq h1 h3] at hc ⊢
  by_cases e : c = widN k
  · rw [if_pos e, decide_eq_true e, e]
    exact look_eq hown (keyV hK k _) 0 false (D_no hK k h1 h3 _ (Nat.le_refl _)).2 (D_no hK k h1 h3 _ (Nat.le_refl _)).1
  · rw [if_neg e, decide_eq_false e]
    exact look_eq hown (keyV hK k _) _ true (D_at hK k h1 h3 c _ (by omega) (Nat.le_refl _)) (D_has hK k h1 h3 c _ (by omega) (Nat.le_refl _))

set_option maxHeartbeats 8000000 in
/-- The rule of reread: where a state leads by the changed column. -/
theorem rule (l : L) (hl : l.Ok) (k2 : Nat) (φ : Nat → Nat) (s c : Nat) (hs : s < l.acc.length) (hφ : φ c ≤ wide l.k) {K : Value → Lit} (hK : Keys K) (b7 b5 b3 mb : Nat) (cf : FuncId) (caps : Array Value) (va vn : Value)
    (hcf : ∀ (args : Array Value) (W : World), (callFunc cf args).run Tryd.prog W = .ok (.enter cf args) W)
    (W : World) (B : Nat) (hB : B ≤ W.heap.size) (hm7 : b7 < B) (hm5 : b5 < B) (hm3 : b3 < B) (hmb : mb < B)
    (h7 : W.cell? ⟨b7, 0, none⟩ = some (.map (some mb))) (h5 : W.cell? ⟨b5, 0, none⟩ = some (.func (.func cf) #[] caps)) (h3 : W.cell? ⟨b3, 3, none⟩ = some vn)
    (hown : W.ownsMap Tryd.prog 75 (plainElem Tryd.prog 2) mb (widN l.k) (Numbers.D K l.k (widN l.k))) (hn : IntRows W B vn (l.nx.map ofN))
    (hch : ∀ W', Below B W W' → Calls Tryd.prog cf (#[lettersV k2 c] ++ caps) W' fun e w' => e = .returned (lettersV l.k (φ c)) ∧ Below W'.heap.size W' w') :
    Calls Tryd.prog 65 #[.int .i64 s, lettersV k2 c, .pointer (some ⟨b7, 0, none⟩), .pointer (some ⟨b5, 0, none⟩), .pointer (some ⟨b3, 0, none⟩)] W fun e w' => e = .returned (.int .i64 (reN l φ s c)) ∧ Below W.heap.size W w' := by
  have HCH := Lib.hid hch
  have HB := Lib.hid hB
  have hk1 := hl.k0
  have hk3 := hl.k3
  obtain ⟨V, hsl, hrows⟩ := hn
  have hlen : (l.nx.map ofN).length = l.acc.length := by rw [List.length_map, hl.len]
  have hrow := hrows s (by rw [hlen]; exact hs)
  have hget : (l.nx.map ofN).getD s [] = ofN (l.nx.getD s []) := by
    have h1 : s < l.nx.length := by rw [hl.len]; exact hs
    simp [List.getD, h1]
  rw [hget] at hrow
  have HS := Lib.hid (fun W' (hb : Below B W W') => (⟨hsl.below hb (Nat.le_refl _), hrow.below hb (Nat.le_refl _)⟩ : Sl W' B vn (l.nx.map ofN).length V ∧ Ints W' B (V s) (ofN (l.nx.getD s []))))
  obtain ⟨an, bn, on, cn, rfl, hmn, han, -⟩ := hsl
  obtain ⟨rfl, hbn⟩ := han (by rw [hlen]; omega)
  have hrl : (ofN (l.nx.getD s [])).length = wide l.k := by rw [ofN_length, hl.row s hs]
  have hw0 : 0 < wide l.k := by have := wide_cases hk1 hk3; omega
  obtain ⟨ar, br, or, cr, hvr, hmr, har, -⟩ := hrow
  rw [hrl] at hvr hmr har
  obtain ⟨rfl, hbr⟩ := har hw0
  rw [hlen] at hmn HS
  have HF := Lib.hid (fun W' (hb : Below B W W') => (show W'.cell? ⟨b7, 0, none⟩ = some (.map (some mb)) ∧ W'.cell? ⟨b5, 0, none⟩ = some (.func (.func cf) #[] caps) ∧ W'.cell? ⟨b3, 3, none⟩ = some (.slice (some ⟨bn, on, none⟩) l.acc.length cn) ∧
      W'.cell? ⟨bn, on + s, none⟩ = some (.slice (some ⟨br, or, none⟩) (wide l.k) cr) ∧ (∀ q, q < wide l.k → W'.cell? ⟨br, or + q, none⟩ = some (.int .i64 ((l.nx.getD s []).getD q 0 : Nat))) from by
    refine ⟨(hb.cell hm7).trans h7, (hb.cell hm5).trans h5, (hb.cell hm3).trans (by rw [h3, hlen]), ?_, fun q hq => ?_⟩
    · obtain ⟨a', b', o', c', e, -, he, hc⟩ := (HS.out W' hb).1
      obtain ⟨e1, -⟩ := he (by omega)
      injection e with e _ _
      rw [e1] at e
      injection e with e
      injection e with e2 e3
      subst e2 e3
      rw [hc s (by omega), hvr]
    · obtain ⟨a', b', o', c', e, -, he, hc⟩ := (HS.out W' hb).2
      rw [hrl] at e he hc
      obtain ⟨e1, -⟩ := he hw0
      rw [hvr] at e
      injection e with e _ _
      rw [e1] at e
      injection e with e
      injection e with e2 e3
      subst e2 e3
      rw [hc q hq]
      show some (Value.int .i64 ((ofN (l.nx.getD s [])).getD q 0)) = _
      rw [ofN_get _ (by rw [hl.row s hs]; exact hq)]))
  have HLK := Lib.hid (fun W' (hb : Below B W W') => look hK l.k hk1 hk3 (ownsMap_of hown (hb.block mb hmb)) (φ c) hφ)
  obtain ⟨y, hy⟩ : ∃ y, y = φ c := ⟨_, rfl⟩
  obtain ⟨m, hm⟩ : ∃ m, m = wide l.k := ⟨_, rfl⟩
  obtain ⟨N, hN⟩ : ∃ N, N = l.acc.length := ⟨_, rfl⟩
  have HRN := Lib.hid (show reN l φ s c = ((if y = m then s else (l.nx.getD s []).getD y 0 : Nat) : Int) by rw [hy, hm]; rfl)
  rw [← hy] at HLK HCH hφ
  rw [← hm] at HLK HF hφ hmr hw0
  rw [← hN] at HF hs hmn
  rw [HRN.out]
  obtain ⟨x0, hx0⟩ : ∃ x, x = letT k2 c 0 := ⟨_, rfl⟩
  obtain ⟨x1, hx1⟩ : ∃ x, x = letT k2 c 1 := ⟨_, rfl⟩
  obtain ⟨x2, hx2⟩ : ∃ x, x = letT k2 c 2 := ⟨_, rfl⟩
  have HCX := Lib.hid (fun W' hb => show Calls Tryd.prog cf (#[.agg #[.int .u8 x0, .int .u8 x1, .int .u8 x2]] ++ caps) W' (fun e w' => e = .returned (lettersV l.k y) ∧ Below W'.heap.size W' w') from by rw [hx0, hx1, hx2]; exact HCH.out W' hb)
  have ev : lettersV k2 c = .agg #[.int .u8 x0, .int .u8 x1, .int .u8 x2] := by rw [hx0, hx1, hx2]; rfl
  rw [ev]
  have HBd := Lib.hid (show Below B W ((W.alloc (.cells #[.int .u8 x0, .int .u8 x1, .int .u8 x2] 75)).drew) from ((Below.refl _ W).alloc hB _).drew)
  have HBz := Lib.hid (show B ≤ ((W.alloc (.cells #[.int .u8 x0, .int .u8 x1, .int .u8 x2] 75)).drew).heap.size by show B ≤ (W.alloc _).heap.size; rw [size_alloc']; omega)
  have HWd := Lib.hid (show Below W.heap.size W ((W.alloc (.cells #[.int .u8 x0, .int .u8 x1, .int .u8 x2] 75)).drew) from ((Below.refl _ W).alloc (Nat.le_refl _) _).drew)
  obtain ⟨q7, q5, -, -, -⟩ := HF.out _ HBd.out
  have k7 : b7 < W.heap.size := by omega
  have k5 : b5 < W.heap.size := by omega
  obtain ⟨v, hv⟩ : ∃ v, v = lettersV l.k y := ⟨_, rfl⟩
  rw [← hv] at HLK HCX
  clear ev hx0 hx1 hx2 HCH HS hrows hvr har han hbn hbr hget hlen hrl h7 h5 h3 hown hK hch HRN hy hm hN hv hB
  go_enter Tryd.func65, Tryd.ntmps65
  by_cases hym : y = m
  · have HLK2 := Lib.hid (fun W' hb => by have h1 := HLK.out W' hb; rw [if_pos hym, decide_eq_true hym] at h1; exact h1)
    have HE := Lib.hid (show ((if y = m then s else (l.nx.getD s []).getD y 0 : Nat) : Int) = s by rw [if_pos hym])
    rw [HE.out]
    go_wp2_with fail
    go_region_with (refine (HCX.out _ HBd.out).mono ?_; rintro e w1 ⟨rfl, hb⟩; have HB1 := Lib.hid (HBd.out.trans (hb.mono HBz.out)); have HW1 := Lib.hid (HWd.out.trans (hb.mono HWd.out.size)); obtain ⟨p7, -, -, -, -⟩ := HF.out w1 HB1.out; have hlk := HLK2.out w1 HB1.out; clear hb)
    all_goals
      go_wp2_with fail
      go_ret
      exact ⟨rfl, HW1.out⟩
  · have hyl : y < m := by omega
    have HLK2 := Lib.hid (fun W' hb => by have h1 := HLK.out W' hb; rw [if_neg hym, decide_eq_false hym] at h1; exact h1)
    have HE := Lib.hid (show ((if y = m then s else (l.nx.getD s []).getD y 0 : Nat) : Int) = ((l.nx.getD s []).getD y 0 : Nat) by rw [if_neg hym])
    rw [HE.out]
    go_wp2_with fail
    go_region_with (refine (HCX.out _ HBd.out).mono ?_; rintro e w1 ⟨rfl, hb⟩; have HB1 := Lib.hid (HBd.out.trans (hb.mono HBz.out)); have HW1 := Lib.hid (HWd.out.trans (hb.mono HWd.out.size)); obtain ⟨p7, -, p3, p9, p10⟩ := HF.out w1 HB1.out; have p11 := p10 y hyl; clear p10; have hlk := HLK2.out w1 HB1.out; clear hb)
    all_goals
      go_wp2_with fail
      go_ret
      exact ⟨rfl, HW1.out⟩
end Go.Proofs.YtaimealknkhfbaaDoor.Reread
/- errors.As for the program's own error of limits: what it answers for no error and for this error.
   Conditions: stated at each theorem. -/
namespace Go.Proofs.YtaimealknkhfbaaDoor.ErrAs
set_option linter.unusedVariables false
set_option linter.unusedSimpArgs false
open Go.RowKit Go.Extern.Stop Go.Stop Go.Extern

set_option maxRecDepth 20000
theorem as_nil (t : Value) (w : World) :
    Calls Tryd.prog 52 #[.nilIface, t] w fun e w' => e = .returned (.bool false) ∧ w = w' := by
  go_enter Tryd.func52, Tryd.ntmps52
  go_wp2
  go_ret
  exact ⟨rfl, rfl⟩

theorem valueOfP (t : Addr) (w : World) : (ReflectliteValue.unpack (.iface 73 (.pointer (some t)))).run Tryd.prog w
    = .ok (.agg #[.pointer (some ⟨1, 73, none⟩), .pointer (some ⟨w.heap.size, 0, none⟩), .int .u64 150]) (w.alloc (.cells #[.pointer (some t)] 73)) := by kernel_rfl
theorem typeP (a : Addr) (w : World) : (ReflectliteValue.methodAny (ReflectliteValue.valueError "reflectlite.Value.Type" 0) (fun t _ _ _ => ReflectliteType.toType t) #[.agg #[.pointer (some ⟨1, 73, none⟩), .pointer (some a), .int .u64 150]]).run Tryd.prog w
    = .ok (.iface 105 (.agg #[.pointer (some ⟨1, 73, none⟩)])) w := by kernel_rfl
theorem kindP (w : World) : ((ReflectliteType.abiMethod fun t => (fun a : Nat => Value.int IntKind.u8 (a : Int)) <$> Rtype.kind t) #[.pointer (some ⟨1, 73, none⟩)]).run Tryd.prog w = .ok (.int .u8 22) w := by kernel_rfl
theorem kindE (w : World) : ((ReflectliteType.abiMethod fun t => (fun a : Nat => Value.int IntKind.u8 (a : Int)) <$> Rtype.kind t) #[.pointer (some ⟨1, 71, none⟩)]).run Tryd.prog w = .ok (.int .u8 6) w := by kernel_rfl
theorem rlm (z : Sem Value) (f : TypeId → Addr → Nat → Nat → Sem Value) (v : Value) :
    ReflectliteValue.method z f #[v] = (do match ← ReflectliteValue.parts v with | none => z | some (t, a, fl) => f t a fl (fl % 32)) := rfl
theorem partsP (a : Addr) (w : World) : (ReflectliteValue.parts (.agg #[.pointer (some ⟨1, 73, none⟩), .pointer (some a), .int .u64 150])).run Tryd.prog w = .ok (some (73, a, 150)) w := by kernel_rfl
theorem isNilP (a p : Addr) (W : World) (ha : W.cell? a = some (.pointer (some p))) :
    (ReflectliteValue.method (ReflectliteValue.valueError "reflectlite.Value.IsNil" 0) ReflectliteValue.isNil #[.agg #[.pointer (some ⟨1, 73, none⟩), .pointer (some a), .int .u64 150]]).run Tryd.prog W = .ok (.bool false) W := by
  rw [rlm]
  simp only [Sem.run_bind, partsP, Result.andThen]
  simp [ReflectliteValue.isNil, loadVar, isAgg, underlying, Tryd.underlying73, ha, Result.andThen]
theorem elemP (w : World) : (ReflectliteType.method ReflectliteType.elem #[.agg #[.pointer (some ⟨1, 73, none⟩)]]).run Tryd.prog w = .ok (.iface 105 (.agg #[.pointer (some ⟨1, 71, none⟩)])) w := by kernel_rfl
theorem implementsE (w : World) : (ReflectliteType.relation "Implements" ReflectliteType.implements_ #[.agg #[.pointer (some ⟨1, 71, none⟩)], .iface 105 (.agg #[.pointer (some ⟨1, 46, none⟩)])]).run Tryd.prog w = .ok (.bool true) w := by kernel_rfl
theorem typeOfE (v : Value) (w : World) : (ReflectliteType.typeOf #[.iface 71 v]).run Tryd.prog w = .ok (.iface 105 (.agg #[.pointer (some ⟨1, 71, none⟩)])) w := by kernel_rfl
theorem assignableE (w : World) : (ReflectliteType.relation "AssignableTo" ReflectliteType.assignableTo #[.agg #[.pointer (some ⟨1, 71, none⟩)], .iface 105 (.agg #[.pointer (some ⟨1, 71, none⟩)])]).run Tryd.prog w = .ok (.bool true) w := by kernel_rfl
theorem valueOfE (n : Int) (w : World) : (ReflectliteValue.unpack (.iface 71 (.int .i64 n))).run Tryd.prog w
    = .ok (.agg #[.pointer (some ⟨1, 71, none⟩), .pointer (some ⟨w.heap.size, 0, none⟩), .int .u64 134]) (w.alloc (.cells #[.int .i64 n] 71)) := by kernel_rfl
theorem elemOfP (w : World) : (Rtype.elem? 73).run Tryd.prog w = .ok (some 71) w := by kernel_rfl
theorem mkE (p : Addr) (w : World) : (ReflectliteValue.mk 71 p ReflectliteValue.flagAddr).run Tryd.prog w = .ok (.agg #[.pointer (some ⟨1, 71, none⟩), .pointer (some p), .int .u64 390]) w := by kernel_rfl
theorem elemVP (a p : Addr) (W : World) (ha : W.cell? a = some (.pointer (some p))) :
    (ReflectliteValue.method (ReflectliteValue.valueError "reflectlite.Value.Elem" 0) ReflectliteValue.elem #[.agg #[.pointer (some ⟨1, 73, none⟩), .pointer (some a), .int .u64 150]]).run Tryd.prog W
      = .ok (.agg #[.pointer (some ⟨1, 71, none⟩), .pointer (some p), .int .u64 390]) W := by
  rw [rlm]
  simp only [Sem.run_bind, partsP, Result.andThen]
  simp [ReflectliteValue.elem, loadVar, isAgg, underlying, Tryd.underlying73, ha, Result.andThen, elemOfP, mkE]
theorem partsEa (a : Addr) (w : World) : (ReflectliteValue.parts (.agg #[.pointer (some ⟨1, 71, none⟩), .pointer (some a), .int .u64 390])).run Tryd.prog w = .ok (some (71, a, 390)) w := by kernel_rfl
theorem partsE (a : Addr) (w : World) : (ReflectliteValue.parts (.agg #[.pointer (some ⟨1, 71, none⟩), .pointer (some a), .int .u64 134])).run Tryd.prog w = .ok (some (71, a, 134)) w := by kernel_rfl
theorem directE (w : World) : (Rtype.directlyAssignable 71 71).run Tryd.prog w = .ok true w := by kernel_rfl
theorem methodKind (h : Value) (w : World) : (Go.method 266 105 (.agg #[h]) "Kind").run Tryd.prog w = .ok (94, h) w := by kernel_rfl
theorem methodElem (h : Value) (w : World) : (Go.method 266 105 (.agg #[h]) "Elem").run Tryd.prog w = .ok (104, .agg #[h]) w := by kernel_rfl
theorem methodImplements (h : Value) (w : World) : (Go.method 266 105 (.agg #[h]) "Implements").run Tryd.prog w = .ok (105, .agg #[h]) w := by kernel_rfl
theorem methodAssignableTo (h : Value) (w : World) : (Go.method 266 105 (.agg #[h]) "AssignableTo").run Tryd.prog w = .ok (102, .agg #[h]) w := by kernel_rfl
theorem rls (v x : Value) : ReflectliteValue.set #[v, x] = (do
    let (some (dst, a, fl), some (src, b, _)) := (← ReflectliteValue.parts v, ← ReflectliteValue.parts x)
      | unsupported (.noEntry "extern/(internal/reflectlite.Value).Set.zeroValue")
    if fl / ReflectliteValue.flagAddr % 2 == 0 then unsupported (.noEntry "extern/(internal/reflectlite.Value).Set.unaddressable")
    let val ← loadVar src b
    if ← Rtype.directlyAssignable dst src then storeVar dst a val
    else if ← Rtype.implements dst src then
      if (← Rtype.kind src) == 20 then
        match val with
        | .nilIface => unsupported (.noEntry "extern/reflectlite: a nil value of one interface type handed on as a value of another")
        | _ => storeVar dst a val
      else storeVar dst a (.iface src val)
    else panicString ("reflectlite.Set: value of type " ++ (← Rtype.spelt src) ++ " is not assignable to type " ++ (← Rtype.spelt dst))
    pure (.tuple #[])) := rfl
theorem setE (ta b : Addr) (n : Int) (old : Value) (W : World) (hb : W.cell? b = some (.int .i64 n)) (ht : W.cell? ta = some old) (hf : W.frozen? ta = false) :
    (ReflectliteValue.set #[.agg #[.pointer (some ⟨1, 71, none⟩), .pointer (some ta), .int .u64 390], .agg #[.pointer (some ⟨1, 71, none⟩), .pointer (some b), .int .u64 134]]).run Tryd.prog W
      = .ok (.tuple #[]) (W.setCell ta (.int .i64 n)) := by
  rw [rls]
  simp only [Sem.run_bind, partsEa, partsE, Result.andThen]
  simp [ReflectliteValue.flagAddr, loadVar, isAgg, underlying, Tryd.underlying71, hb, Result.andThen, directE, storeVar, Value.cells, storeCells, Addr.add]
  rw [run_store Tryd.prog W ta _ _ (by rfl)]
  simp [ht, hf]

set_option maxHeartbeats 4000000 in
/-- errors.As at this error, the target being a variable of its type. -/
theorem as_hit (n : Int) (t : Addr) (old : Value) (w : World) (hg : w.cell? ⟨0, 0, none⟩ = some (.iface 105 (.agg #[.pointer (some ⟨1, 46, none⟩)]))) (ht0 : w.cell? t = some old) (hf0 : w.frozen? t = false) :
    Calls Tryd.prog 52 #[.iface 71 (.int .i64 n), .iface 73 (.pointer (some t))] w fun ev w' => ev = .returned (.bool true) ∧
      w' = ((((w.alloc (.cells #[.pointer (some t)] 73)).alloc (.cells #[.pointer (some ⟨1, 73, none⟩), .pointer (some ⟨w.heap.size, 0, none⟩), .int .u64 150] 86)).alloc (.cells #[.pointer (some ⟨1, 73, none⟩), .pointer (some ⟨w.heap.size, 0, none⟩), .int .u64 150] 86)).alloc (.cells #[.int .i64 n] 71)).setCell t (.int .i64 n) := by
  have h6 := @run_callFunc_extern Tryd.prog 59 _ (fun args => ReflectliteValue.unpack (args.getD 0 (.tuple #[]))) Tryd.func59 (by kernel_rfl) (by kernel_rfl) (by kernel_rfl) (by kernel_rfl)
  have h7 := @run_callFunc_extern Tryd.prog 60 _ (ReflectliteValue.methodAny (ReflectliteValue.valueError "reflectlite.Value.Type" 0) (fun t _ _ _ => ReflectliteType.toType t)) Tryd.func60 (by kernel_rfl) (by kernel_rfl) (by kernel_rfl) (by kernel_rfl)
  have h8 := @run_callFunc_extern Tryd.prog 61 _ (ReflectliteValue.method (ReflectliteValue.valueError "reflectlite.Value.IsNil" 0) ReflectliteValue.isNil) Tryd.func61 (by kernel_rfl) (by kernel_rfl) (by kernel_rfl) (by kernel_rfl)
  have h27 := @run_callFunc_extern Tryd.prog 94 _ (ReflectliteType.abiMethod fun t => do pure (.int .u8 (← Rtype.kind t))) Tryd.func94 (by kernel_rfl) (by kernel_rfl) (by kernel_rfl) (by kernel_rfl)
  have h37 := @run_callFunc_extern Tryd.prog 104 _ (ReflectliteType.method ReflectliteType.elem) Tryd.func104 (by kernel_rfl) (by kernel_rfl) (by kernel_rfl) (by kernel_rfl)
  have h38 := @run_callFunc_extern Tryd.prog 105 _ (ReflectliteType.relation "Implements" ReflectliteType.implements_) Tryd.func105 (by kernel_rfl) (by kernel_rfl) (by kernel_rfl) (by kernel_rfl)
  have h10 := @run_callFunc_extern Tryd.prog 67 _ ReflectliteType.typeOf Tryd.func67 (by kernel_rfl) (by kernel_rfl) (by kernel_rfl) (by kernel_rfl)
  have h35 := @run_callFunc_extern Tryd.prog 102 _ (ReflectliteType.relation "AssignableTo" ReflectliteType.assignableTo) Tryd.func102 (by kernel_rfl) (by kernel_rfl) (by kernel_rfl) (by kernel_rfl)
  have h11 := @run_callFunc_extern Tryd.prog 68 _ (ReflectliteValue.method (ReflectliteValue.valueError "reflectlite.Value.Elem" 0) ReflectliteValue.elem) Tryd.func68 (by kernel_rfl) (by kernel_rfl) (by kernel_rfl) (by kernel_rfl)
  have h12 := @run_callFunc_extern Tryd.prog 69 _ ReflectliteValue.set Tryd.func69 (by kernel_rfl) (by kernel_rfl) (by kernel_rfl) (by kernel_rfl)
  have tO := typeOfE
  have mA := methodAssignableTo
  have a25 := assignableE
  have v25 := valueOfE
  have f6 := valueOfP
  have f7 := typeP
  have mK := methodKind
  have mE := methodElem
  have mI := methodImplements
  have k27 := kindP
  have k25 := kindE
  have e27 := elemP
  have i25 := implementsE
  have n8 := isNilP ⟨w.heap.size, 0, none⟩ t ((w.alloc (.cells #[.pointer (some t)] 73)).alloc (.cells #[.pointer (some ⟨1, 73, none⟩), .pointer (some ⟨w.heap.size, 0, none⟩), .int .u64 150] 86)) (by simp)
  have hlt : 0 < w.heap.size := by
    rcases Nat.eq_zero_or_pos w.heap.size with h0 | h
    · simp [World.cell?, h0] at hg
    · exact h
  have hg2 : ((w.alloc (.cells #[.pointer (some t)] 73)).alloc (.cells #[.pointer (some ⟨1, 73, none⟩), .pointer (some ⟨w.heap.size, 0, none⟩), .int .u64 150] 86)).cell? ⟨0, 0, none⟩ = some (.iface 105 (.agg #[.pointer (some ⟨1, 46, none⟩)])) := by
    rw [World.cell?_alloc_lt _ _ ⟨0, 0, none⟩ (by simp), World.cell?_alloc_lt _ _ ⟨0, 0, none⟩ hlt]; exact hg
  have htl : t.block < w.heap.size := by
    rcases Nat.lt_or_ge t.block w.heap.size with h | h
    · exact h
    · simp [World.cell?, Array.getElem?_eq_none h] at ht0
  have el := elemVP ⟨w.heap.size, 0, none⟩ t (((w.alloc (.cells #[.pointer (some t)] 73)).alloc (.cells #[.pointer (some ⟨1, 73, none⟩), .pointer (some ⟨w.heap.size, 0, none⟩), .int .u64 150] 86)).alloc (.cells #[.pointer (some ⟨1, 73, none⟩), .pointer (some ⟨w.heap.size, 0, none⟩), .int .u64 150] 86)) (by rw [World.cell?_alloc_lt _ _ ⟨w.heap.size, 0, none⟩ (by simp; omega)]; simp)
  have st := setE t ⟨w.heap.size + 1 + 1 + 1, 0, none⟩ n old ((((w.alloc (.cells #[.pointer (some t)] 73)).alloc (.cells #[.pointer (some ⟨1, 73, none⟩), .pointer (some ⟨w.heap.size, 0, none⟩), .int .u64 150] 86)).alloc (.cells #[.pointer (some ⟨1, 73, none⟩), .pointer (some ⟨w.heap.size, 0, none⟩), .int .u64 150] 86)).alloc (.cells #[.int .i64 n] 71))
    (by rw [World.cell?_alloc_at _ _ _ _ (by simp)]; rfl)
    (by rw [World.cell?_alloc_lt _ _ t (by simp; omega), World.cell?_alloc_lt _ _ t (by simp; omega), World.cell?_alloc_lt _ _ t (by simp; omega), World.cell?_alloc_lt _ _ t htl]; exact ht0)
    (by rw [World.frozen?_alloc_old _ _ t (by simp; omega), World.frozen?_alloc_old _ _ t (by simp; omega), World.frozen?_alloc_old _ _ t (by simp; omega), World.frozen?_alloc_old _ _ t (Nat.ne_of_lt htl)]; exact hf0)
  go_enter Tryd.func52, Tryd.ntmps52
  go_wp2
  refine wp_loop_rounds 1 ?_
  rw [rounds_succ]
  go_wp2
  go_ret
  exact ⟨rfl, rfl⟩
end Go.Proofs.YtaimealknkhfbaaDoor.ErrAs
