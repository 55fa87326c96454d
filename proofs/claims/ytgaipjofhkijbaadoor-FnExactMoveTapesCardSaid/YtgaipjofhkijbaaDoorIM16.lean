
/- errors.As for the program's own error of limits: what it answers for no error and for this error.
   Conditions: stated at each theorem. -/
import Derived.Test.YtgaipjofhkijbaaDoorRows
import Derived.WalkKit
import Derived.LaidEql
import Derived.Stop.Asserts
import Derived.RowKitTokens
import Derived.Lib.Hide
import Derived.Test.YtgaipjofhkijbaaDoorIM6
import Derived.Test.YtgaipjofhkijbaaDoorIM2
import Derived.Deep.RegionWith
namespace Go.Proofs.YtgaipjofhkijbaaDoor.ErrAs
set_option linter.unusedVariables false
set_option linter.unusedSimpArgs false
open Go.RowKit Go.Extern.Stop Go.Stop Go.Extern

set_option maxRecDepth 20000
theorem as_nil (t : Value) (w : World) :
    Calls Tryd.prog 81 #[.nilIface, t] w fun e w' => e = .returned (.bool false) ∧ w = w' := by
  go_enter Tryd.func81, Tryd.ntmps81
  go_wp2
  go_ret
  exact ⟨rfl, rfl⟩

theorem valueOfP (t : Addr) (w : World) : (ReflectliteValue.unpack (.iface 99 (.pointer (some t)))).run Tryd.prog w
    = .ok (.agg #[.pointer (some ⟨1, 99, none⟩), .pointer (some ⟨w.heap.size, 0, none⟩), .int .u64 150]) (w.alloc (.cells #[.pointer (some t)] 99)) := by kernel_rfl
theorem typeP (a : Addr) (w : World) : (ReflectliteValue.methodAny (ReflectliteValue.valueError "reflectlite.Value.Type" 0) (fun t _ _ _ => ReflectliteType.toType t) #[.agg #[.pointer (some ⟨1, 99, none⟩), .pointer (some a), .int .u64 150]]).run Tryd.prog w
    = .ok (.iface 127 (.agg #[.pointer (some ⟨1, 99, none⟩)])) w := by kernel_rfl
theorem kindP (w : World) : ((ReflectliteType.abiMethod fun t => (fun a : Nat => Value.int IntKind.u8 (a : Int)) <$> Rtype.kind t) #[.pointer (some ⟨1, 99, none⟩)]).run Tryd.prog w = .ok (.int .u8 22) w := by kernel_rfl
theorem kindE (w : World) : ((ReflectliteType.abiMethod fun t => (fun a : Nat => Value.int IntKind.u8 (a : Int)) <$> Rtype.kind t) #[.pointer (some ⟨1, 91, none⟩)]).run Tryd.prog w = .ok (.int .u8 6) w := by kernel_rfl
theorem rlm (z : Sem Value) (f : TypeId → Addr → Nat → Nat → Sem Value) (v : Value) :
    ReflectliteValue.method z f #[v] = (do match ← ReflectliteValue.parts v with | none => z | some (t, a, fl) => f t a fl (fl % 32)) := rfl
theorem partsP (a : Addr) (w : World) : (ReflectliteValue.parts (.agg #[.pointer (some ⟨1, 99, none⟩), .pointer (some a), .int .u64 150])).run Tryd.prog w = .ok (some (99, a, 150)) w := by kernel_rfl
theorem isNilP (a p : Addr) (W : World) (ha : W.cell? a = some (.pointer (some p))) :
    (ReflectliteValue.method (ReflectliteValue.valueError "reflectlite.Value.IsNil" 0) ReflectliteValue.isNil #[.agg #[.pointer (some ⟨1, 99, none⟩), .pointer (some a), .int .u64 150]]).run Tryd.prog W = .ok (.bool false) W := by
  rw [rlm]
  simp only [Sem.run_bind, partsP, Result.andThen]
  simp [ReflectliteValue.isNil, loadVar, isAgg, underlying, Tryd.underlying99, ha, Result.andThen]
theorem elemP (w : World) : (ReflectliteType.method ReflectliteType.elem #[.agg #[.pointer (some ⟨1, 99, none⟩)]]).run Tryd.prog w = .ok (.iface 127 (.agg #[.pointer (some ⟨1, 91, none⟩)])) w := by kernel_rfl
theorem implementsE (w : World) : (ReflectliteType.relation "Implements" ReflectliteType.implements_ #[.agg #[.pointer (some ⟨1, 91, none⟩)], .iface 127 (.agg #[.pointer (some ⟨1, 54, none⟩)])]).run Tryd.prog w = .ok (.bool true) w := by kernel_rfl
theorem typeOfE (v : Value) (w : World) : (ReflectliteType.typeOf #[.iface 91 v]).run Tryd.prog w = .ok (.iface 127 (.agg #[.pointer (some ⟨1, 91, none⟩)])) w := by kernel_rfl
theorem assignableE (w : World) : (ReflectliteType.relation "AssignableTo" ReflectliteType.assignableTo #[.agg #[.pointer (some ⟨1, 91, none⟩)], .iface 127 (.agg #[.pointer (some ⟨1, 91, none⟩)])]).run Tryd.prog w = .ok (.bool true) w := by kernel_rfl
theorem valueOfE (n : Int) (w : World) : (ReflectliteValue.unpack (.iface 91 (.int .i64 n))).run Tryd.prog w
    = .ok (.agg #[.pointer (some ⟨1, 91, none⟩), .pointer (some ⟨w.heap.size, 0, none⟩), .int .u64 134]) (w.alloc (.cells #[.int .i64 n] 91)) := by kernel_rfl
theorem elemOfP (w : World) : (Rtype.elem? 99).run Tryd.prog w = .ok (some 91) w := by kernel_rfl
theorem mkE (p : Addr) (w : World) : (ReflectliteValue.mk 91 p ReflectliteValue.flagAddr).run Tryd.prog w = .ok (.agg #[.pointer (some ⟨1, 91, none⟩), .pointer (some p), .int .u64 390]) w := by kernel_rfl
theorem elemVP (a p : Addr) (W : World) (ha : W.cell? a = some (.pointer (some p))) :
    (ReflectliteValue.method (ReflectliteValue.valueError "reflectlite.Value.Elem" 0) ReflectliteValue.elem #[.agg #[.pointer (some ⟨1, 99, none⟩), .pointer (some a), .int .u64 150]]).run Tryd.prog W
      = .ok (.agg #[.pointer (some ⟨1, 91, none⟩), .pointer (some p), .int .u64 390]) W := by
  rw [rlm]
  simp only [Sem.run_bind, partsP, Result.andThen]
  simp [ReflectliteValue.elem, loadVar, isAgg, underlying, Tryd.underlying99, ha, Result.andThen, elemOfP, mkE]
theorem partsEa (a : Addr) (w : World) : (ReflectliteValue.parts (.agg #[.pointer (some ⟨1, 91, none⟩), .pointer (some a), .int .u64 390])).run Tryd.prog w = .ok (some (91, a, 390)) w := by kernel_rfl
theorem partsE (a : Addr) (w : World) : (ReflectliteValue.parts (.agg #[.pointer (some ⟨1, 91, none⟩), .pointer (some a), .int .u64 134])).run Tryd.prog w = .ok (some (91, a, 134)) w := by kernel_rfl
theorem directE (w : World) : (Rtype.directlyAssignable 91 91).run Tryd.prog w = .ok true w := by kernel_rfl
theorem methodKind (h : Value) (w : World) : (Go.method 281 127 (.agg #[h]) "Kind").run Tryd.prog w = .ok (119, h) w := by kernel_rfl
theorem methodElem (h : Value) (w : World) : (Go.method 281 127 (.agg #[h]) "Elem").run Tryd.prog w = .ok (129, .agg #[h]) w := by kernel_rfl
theorem methodImplements (h : Value) (w : World) : (Go.method 281 127 (.agg #[h]) "Implements").run Tryd.prog w = .ok (130, .agg #[h]) w := by kernel_rfl
theorem methodAssignableTo (h : Value) (w : World) : (Go.method 281 127 (.agg #[h]) "AssignableTo").run Tryd.prog w = .ok (127, .agg #[h]) w := by kernel_rfl
theorem rls (v x : Value) : ReflectliteValue.set #[v, x] = (do
    let (some (dst, a, fl), some (src, b, _)) := (← ReflectliteValue.parts v, ← ReflectliteValue.parts x)
      | unsupported (.noEntry "extern/(internal/reflectlite.Value).Set.zeroValue")
    if fl / ReflectliteValue.flagAddr % 2 == 0 then unsupported (.noEntry "extern/(internal/reflectlite.Value).Set.unaddressable")
    let val ← loadVar src b
    if ← Rtype.directlyAssignable dst src then storeVar dst a val
    else if ← Rtype.implements dst src then
      if (← Rtype.kind src) == 20 then
        match val with
        | .nilIface => unsupported (.noEntry "extern/reflectlite: a nil value of one interface type handed on as a value of another")
        | _ => storeVar dst a val
      else storeVar dst a (.iface src val)
    else panicString ("reflectlite.Set: value of type " ++ (← Rtype.spelt src) ++ " is not assignable to type " ++ (← Rtype.spelt dst))
    pure (.tuple #[])) := rfl
theorem setE (ta b : Addr) (n : Int) (old : Value) (W : World) (hb : W.cell? b = some (.int .i64 n)) (ht : W.cell? ta = some old) (hf : W.frozen? ta = false) :
    (ReflectliteValue.set #[.agg #[.pointer (some ⟨1, 91, none⟩), .pointer (some ta), .int .u64 390], .agg #[.pointer (some ⟨1, 91, none⟩), .pointer (some b), .int .u64 134]]).run Tryd.prog W
      = .ok (.tuple #[]) (W.setCell ta (.int .i64 n)) := by
  rw [rls]
  simp only [Sem.run_bind, partsEa, partsE, Result.andThen]
  simp [ReflectliteValue.flagAddr, loadVar, isAgg, underlying, Tryd.underlying91, hb, Result.andThen, directE, storeVar, Value.cells, storeCells, Addr.add]
  rw [run_store Tryd.prog W ta _ _ (by rfl)]
  simp [ht, hf]

set_option maxHeartbeats 4000000 in
/-- errors.As at this error, the target being a variable of its type. -/
theorem as_hit (n : Int) (t : Addr) (old : Value) (w : World) (hg : w.cell? ⟨0, 0, none⟩ = some (.iface 127 (.agg #[.pointer (some ⟨1, 54, none⟩)]))) (ht0 : w.cell? t = some old) (hf0 : w.frozen? t = false) :
    Calls Tryd.prog 81 #[.iface 91 (.int .i64 n), .iface 99 (.pointer (some t))] w fun ev w' => ev = .returned (.bool true) ∧
      w' = ((((w.alloc (.cells #[.pointer (some t)] 99)).alloc (.cells #[.pointer (some ⟨1, 99, none⟩), .pointer (some ⟨w.heap.size, 0, none⟩), .int .u64 150] 111)).alloc (.cells #[.pointer (some ⟨1, 99, none⟩), .pointer (some ⟨w.heap.size, 0, none⟩), .int .u64 150] 111)).alloc (.cells #[.int .i64 n] 91)).setCell t (.int .i64 n) := by
  have h6 := @run_callFunc_extern Tryd.prog 90 _ (fun args => ReflectliteValue.unpack (args.getD 0 (.tuple #[]))) Tryd.func90 (by kernel_rfl) (by kernel_rfl) (by kernel_rfl) (by kernel_rfl)
  have h7 := @run_callFunc_extern Tryd.prog 91 _ (ReflectliteValue.methodAny (ReflectliteValue.valueError "reflectlite.Value.Type" 0) (fun t _ _ _ => ReflectliteType.toType t)) Tryd.func91 (by kernel_rfl) (by kernel_rfl) (by kernel_rfl) (by kernel_rfl)
  have h8 := @run_callFunc_extern Tryd.prog 92 _ (ReflectliteValue.method (ReflectliteValue.valueError "reflectlite.Value.IsNil" 0) ReflectliteValue.isNil) Tryd.func92 (by kernel_rfl) (by kernel_rfl) (by kernel_rfl) (by kernel_rfl)
  have h27 := @run_callFunc_extern Tryd.prog 119 _ (ReflectliteType.abiMethod fun t => do pure (.int .u8 (← Rtype.kind t))) Tryd.func119 (by kernel_rfl) (by kernel_rfl) (by kernel_rfl) (by kernel_rfl)
  have h37 := @run_callFunc_extern Tryd.prog 129 _ (ReflectliteType.method ReflectliteType.elem) Tryd.func129 (by kernel_rfl) (by kernel_rfl) (by kernel_rfl) (by kernel_rfl)
  have h38 := @run_callFunc_extern Tryd.prog 130 _ (ReflectliteType.relation "Implements" ReflectliteType.implements_) Tryd.func130 (by kernel_rfl) (by kernel_rfl) (by kernel_rfl) (by kernel_rfl)
  have h10 := @run_callFunc_extern Tryd.prog 98 _ ReflectliteType.typeOf Tryd.func98 (by kernel_rfl) (by kernel_rfl) (by kernel_rfl) (by kernel_rfl)
  have h35 := @run_callFunc_extern Tryd.prog 127 _ (ReflectliteType.relation "AssignableTo" ReflectliteType.assignableTo) Tryd.func127 (by kernel_rfl) (by kernel_rfl) (by kernel_rfl) (by kernel_rfl)
  have h11 := @run_callFunc_extern Tryd.prog 99 _ (ReflectliteValue.method (ReflectliteValue.valueError "reflectlite.Value.Elem" 0) ReflectliteValue.elem) Tryd.func99 (by kernel_rfl) (by kernel_rfl) (by kernel_rfl) (by kernel_rfl)
  have h12 := @run_callFunc_extern Tryd.prog 100 _ ReflectliteValue.set Tryd.func100 (by kernel_rfl) (by kernel_rfl) (by kernel_rfl) (by kernel_rfl)
  have tO := typeOfE
  have mA := methodAssignableTo
  have a25 := assignableE
  have v25 := valueOfE
  have f6 := valueOfP
  have f7 := typeP
  have mK := methodKind
  have mE := methodElem
  have mI := methodImplements
  have k27 := kindP
  have k25 := kindE
  have e27 := elemP
  have i25 := implementsE
  have n8 := isNilP ⟨w.heap.size, 0, none⟩ t ((w.alloc (.cells #[.pointer (some t)] 99)).alloc (.cells #[.pointer (some ⟨1, 99, none⟩), .pointer (some ⟨w.heap.size, 0, none⟩), .int .u64 150] 111)) (by simp)
  have hlt : 0 < w.heap.size := by
    rcases Nat.eq_zero_or_pos w.heap.size with h0 | h
    · simp [World.cell?, h0] at hg
    · exact h
  have hg2 : ((w.alloc (.cells #[.pointer (some t)] 99)).alloc (.cells #[.pointer (some ⟨1, 99, none⟩), .pointer (some ⟨w.heap.size, 0, none⟩), .int .u64 150] 111)).cell? ⟨0, 0, none⟩ = some (.iface 127 (.agg #[.pointer (some ⟨1, 54, none⟩)])) := by
    rw [World.cell?_alloc_lt _ _ ⟨0, 0, none⟩ (by simp), World.cell?_alloc_lt _ _ ⟨0, 0, none⟩ hlt]; exact hg
  have htl : t.block < w.heap.size := by
    rcases Nat.lt_or_ge t.block w.heap.size with h | h
    · exact h
    · simp [World.cell?, Array.getElem?_eq_none h] at ht0
  have el := elemVP ⟨w.heap.size, 0, none⟩ t (((w.alloc (.cells #[.pointer (some t)] 99)).alloc (.cells #[.pointer (some ⟨1, 99, none⟩), .pointer (some ⟨w.heap.size, 0, none⟩), .int .u64 150] 111)).alloc (.cells #[.pointer (some ⟨1, 99, none⟩), .pointer (some ⟨w.heap.size, 0, none⟩), .int .u64 150] 111)) (by rw [World.cell?_alloc_lt _ _ ⟨w.heap.size, 0, none⟩ (by simp; omega)]; simp)
  have st := setE t ⟨w.heap.size + 1 + 1 + 1, 0, none⟩ n old ((((w.alloc (.cells #[.pointer (some t)] 99)).alloc (.cells #[.pointer (some ⟨1, 99, none⟩), .pointer (some ⟨w.heap.size, 0, none⟩), .int .u64 150] 111)).alloc (.cells #[.pointer (some ⟨1, 99, none⟩), .pointer (some ⟨w.heap.size, 0, none⟩), .int .u64 150] 111)).alloc (.cells #[.int .i64 n] 91))
    (by rw [World.cell?_alloc_at _ _ _ _ (by simp)]; rfl)
    (by rw [World.cell?_alloc_lt _ _ t (by simp; omega), World.cell?_alloc_lt _ _ t (by simp; omega), World.cell?_alloc_lt _ _ t (by simp; omega), World.cell?_alloc_lt _ _ t htl]; exact ht0)
    (by rw [World.frozen?_alloc_old _ _ t (by simp; omega), World.frozen?_alloc_old _ _ t (by simp; omega), World.frozen?_alloc_old _ _ t (by simp; omega), World.frozen?_alloc_old _ _ t (Nat.ne_of_lt htl)]; exact hf0)
  go_enter Tryd.func81, Tryd.ntmps81
  go_wp2
  refine wp_loop_rounds 1 ?_
  rw [rounds_succ]
  go_wp2
  go_ret
  exact ⟨rfl, rfl⟩
end Go.Proofs.YtgaipjofhkijbaaDoor.ErrAs
/- Lists of places (two numbers each) that a function makes and appends to; the table of their numbers; what the program's function that meets a place does.
   Conditions: stated at each theorem. -/
namespace Go.Proofs.YtgaipjofhkijbaaDoor.Places
set_option linter.unusedVariables false
set_option linter.unusedSimpArgs false
open Go.RowKit Mem Copy Rel Heap Bld TidyMath TidyRight

def flat : List (Nat × Nat) → List Value
  | [] => []
  | p :: r => .int .i64 (p.1 : Nat) :: .int .i64 (p.2 : Nat) :: flat r
theorem flat_length : ∀ ps : List (Nat × Nat), (flat ps).length = ps.length * 2
  | [] => rfl
  | p :: r => by rw [flat, List.length_cons, List.length_cons, flat_length r, List.length_cons]; omega
theorem flat_append : ∀ (ps qs : List (Nat × Nat)), flat (ps ++ qs) = flat ps ++ flat qs
  | [], qs => rfl
  | p :: r, qs => by rw [List.cons_append, flat, flat, flat_append r, List.cons_append, List.cons_append]
theorem flat_get : ∀ (ps : List (Nat × Nat)) (i : Nat) (h : i < ps.length), (flat ps)[i * 2]? = some (.int .i64 (ps[i].1 : Nat)) ∧ (flat ps)[i * 2 + 1]? = some (.int .i64 (ps[i].2 : Nat))
  | p :: r, 0, h => ⟨rfl, rfl⟩
  | p :: r, i + 1, h => by
    have := flat_get r i (by simpa using h)
    rw [flat, show (i + 1) * 2 = i * 2 + 1 + 1 by omega, List.getElem?_cons_succ, List.getElem?_cons_succ, List.getElem?_cons_succ, List.getElem?_cons_succ]
    exact this

/-- The slice value v is a list of the function's own of the places ps. -/
def Plc (w : World) (B : Nat) (v : Value) (ps : List (Nat × Nat)) : Prop := w.ownsRow B 142 2 v ps.length (flat ps)
theorem Plc.lt {w : World} {B : Nat} {v : Value} {ps : List (Nat × Nat)} (h : Plc w B v ps) {k : Nat} (hk : v.ownBlock = some k) : k < w.heap.size := (World.ownsRow.lt h k hk).2
theorem Plc.ge {w : World} {B : Nat} {v : Value} {ps : List (Nat × Nat)} (h : Plc w B v ps) {k : Nat} (hk : v.ownBlock = some k) : B ≤ k := (World.ownsRow.lt h k hk).1
theorem Plc.of_block {w w' : World} {B : Nat} {v : Value} {ps : List (Nat × Nat)} (h : Plc w B v ps) (hb : ∀ k, v.ownBlock = some k → w'.heap[k]? = w.heap[k]?) : Plc w' B v ps := by
  refine ⟨h.1, ?_⟩
  rcases h.2 with h' | ⟨g, cap, cur, hv, hbg, hh, r⟩
  · exact .inl h'
  · refine .inr ⟨g, cap, cur, hv, hbg, ?_, r⟩
    rw [hb g (by rw [hv]; rfl)]; exact hh
theorem Plc.grown {w w' : World} {B : Nat} {v : Value} {ps : List (Nat × Nat)} {row : Option Nat} (h : Plc w B v ps) (hg : w.grownBy w' row) (hr : ∀ k, row = some k → v.ownBlock ≠ some k) : Plc w' B v ps :=
  h.of_block fun k hk => hg.block k (h.lt hk) (fun e => hr k e.symm hk)
theorem Plc.below {w w' : World} {B : Nat} {v : Value} {ps : List (Nat × Nat)} (h : Plc w B v ps) (hb : Below w.heap.size w w') : Plc w' B v ps :=
  h.of_block fun k hk => hb.block k (h.lt hk)
theorem Plc.alloc {w : World} {B : Nat} {v : Value} {ps : List (Nat × Nat)} (h : Plc w B v ps) (o : Obj) : Plc (w.alloc o) B v ps := h.below ((Below.refl _ _).alloc (Nat.le_refl _) _)
theorem Plc.drewN {w : World} {B : Nat} {v : Value} {ps : List (Nat × Nat)} (h : Plc w B v ps) (m : Nat) : Plc (w.drewN m) B v ps := h
theorem Plc.setOther {w : World} {B : Nat} {v : Value} {ps : List (Nat × Nat)} (h : Plc w B v ps) {a : Addr} (ha : v.ownBlock ≠ some a.block) (u : Value) : Plc (w.setCell a u) B v ps :=
  h.of_block fun k hk => Below.heap_setCell _ _ _ _ (fun e => ha (by rw [← e]; exact hk))
theorem Plc.block {w : World} {B : Nat} {v : Value} {ps : List (Nat × Nat)} (h : Plc w B v ps) (hn : 0 < ps.length) : ∃ g cap cur, v = .slice (some ⟨g, 0, none⟩) ps.length cap ∧ B ≤ g ∧ w.heap[g]? = some (.cells cur 142 (0, 0)) ∧
    ∀ i (hi : i < ps.length), cur[i * 2]? = some (.int .i64 (ps[i].1 : Nat)) ∧ cur[i * 2 + 1]? = some (.int .i64 (ps[i].2 : Nat)) := by
  rcases h.2 with ⟨rfl, h0⟩ | ⟨g, cap, cur, rfl, hbg, hh, hnc, hc, hs, ht⟩
  · omega
  · refine ⟨g, cap, cur, rfl, hbg, hh, fun i hi => ?_⟩
    have h1 := flat_get ps i hi
    rw [← ht] at h1
    rw [List.getElem?_take, List.getElem?_take] at h1
    rw [if_pos (by omega), if_pos (by omega)] at h1
    simpa using h1
theorem Plc.shape' {w : World} {B : Nat} {v : Value} {ps : List (Nat × Nat)} (h : Plc w B v ps) (hn : 0 < ps.length) : ∃ g n cap, v = .slice (some ⟨g, 0, none⟩) n cap ∧ Hid (n = ps.length) ∧ Hid (g < w.heap.size) := by
  obtain ⟨g, cap, cur, hv, hB, hh, -⟩ := h.block hn
  exact ⟨g, _, cap, hv, rfl, lt_of_block hh⟩
/-- Blocks of other kinds are other blocks. -/
theorem Plc.not_block {w : World} {B : Nat} {v : Value} {ps : List (Nat × Nat)} {k : Nat} {c : Array Value} {t : TypeId} {r : Nat × Nat} (h : Plc w B v ps) (hb : w.heap[k]? = some (.cells c t r)) (ht : t ≠ 142) : v.ownBlock ≠ some k := by
  intro e
  rcases h.2 with ⟨rfl, -⟩ | ⟨g, cap, cur, rfl, hbg, hh, -⟩
  · cases e
  · cases e
    rw [hh] at hb
    cases hb
    exact ht rfl
theorem Plc.not_lst {w : World} {B B' : Nat} {t : TypeId} {v v' : Value} {ps : List (Nat × Nat)} {xs : List Value} (h : Plc w B v ps) (h' : Lst w B' t v' xs) (ht : t ≠ 142) (k : Nat) (e : v'.ownBlock = some k) : v.ownBlock ≠ some k := by
  rcases h'.2 with ⟨rfl, -⟩ | ⟨g, cap, cur, rfl, hbg, hh, -⟩
  · cases e
  · cases e
    exact h.not_block hh ht

theorem infoP : (Tryd.prog.info? 142).map (fun i => (i.zero, i.size, i.bytes)) = some (some (.agg #[.int .i64 0, .int .i64 0]), 2, 16) := by kernel_rfl

structure PushedP (w w' : World) (B : Nat) (v v' : Value) (ps : List (Nat × Nat)) (p : Nat × Nat) : Prop where
  plc : Plc w' B v' (ps ++ [p])
  grow : w.grownBy w' v.ownBlock
  at_ : v'.ownBlock = v.ownBlock ∨ ∃ g, v'.ownBlock = some g ∧ w.heap.size ≤ g

theorem wpList_pushP {w : World} {ops : Array Oper} {rest : List Oper} {o : Oper} {a : Act} {Q : Exit → Act → World → Prop} (hgd : o.guard = none) (s x : Operand)
    (ho : o.op = .call { callee := .builtin .append, args := #[s, x], argTypes := #[143, 143] })
    (B : Nat) (v : Value) (ps : List (Nat × Nat)) (p : Nat × Nat) (hown : Plc w B v ps) (hB : B ≤ w.heap.size) (hlen : ps.length ≤ 100000000) (hs : a.eval s = v) (N : Nat) (hx : a.eval x = .slice (some ⟨N, 0, none⟩) 1 1) (hN : w.heap.size = N)
    (h : ∀ v' w', PushedP w w' B v v' ps p → wpList Tryd.prog ops Q rest (a.put o.dst v') w') : wpList Tryd.prog ops Q (o :: rest) a (w.alloc (.cells #[.int .i64 (p.1 : Nat), .int .i64 (p.2 : Nat)] 142)) := by
  obtain ⟨i, hi, hz, hsize, hbytes⟩ := info_parts infoP
  subst hN
  refine wpList_append_own_at (P := Tryd.prog) _ hgd s x 143 ho B 142 i (.agg #[.int .i64 0, .int .i64 0]) 2 16 Tryd.underlying143 hi hz hsize hbytes rfl (by decide) v ps.length (flat ps) hs (Plc.alloc hown _) ⟨w.heap.size, 0, none⟩ 1 1 [.int .i64 (p.1 : Nat), .int .i64 (p.2 : Nat)] hx rfl ?_ ?_ (by unfold maxLen; omega) ?_ (by simp; omega) ?_
  · intro j u' hj
    match j, hj with
    | 0, hj => simp at hj; subst hj; exact World.cell?_alloc_mark ..
    | 1, hj => simp at hj; subst hj; exact World.cell?_alloc_mark ..
  · intro u' hu
    simp at hu
    rcases hu with rfl | rfl <;> rfl
  · have : (ps.length + 1) * 16 ≤ 100000001 * 16 := Nat.mul_le_mul (by omega) (Nat.le_refl _)
    omega
  · intro v' w' hown' hg _ hat
    refine h v' w' ⟨?_, grown_trans_alloc hg, ?_⟩
    · unfold Plc
      rw [List.length_append, flat_append]
      exact hown'
    · rcases hat with e | e
      · exact .inl e
      · exact .inr ⟨_, e, by simp⟩

/-- The place with a number, and the table: one more than where it has been met, 0 if it has not. -/
def code (p : Nat × Nat) : Nat := p.1 * 8 + p.2
def numP (P : List (Nat × Nat)) (i : Nat) : Int := if idx id P (i / 8, i % 8) < P.length then ((idx id P (i / 8, i % 8) + 1 : Nat) : Int) else 0
theorem code_place {p : Nat × Nat} (h : p.2 < 8) : (code p / 8, code p % 8) = p := by
  unfold code
  exact Prod.ext (by show (p.1 * 8 + p.2) / 8 = p.1; omega) (by show (p.1 * 8 + p.2) % 8 = p.2; omega)
theorem place_code (i : Nat) : code (i / 8, i % 8) = i := by
  unfold code
  show i / 8 * 8 + i % 8 = i; omega
theorem numP_at {P : List (Nat × Nat)} {p : Nat × Nat} (h : p.2 < 8) : numP P (code p) = if idx id P p < P.length then ((idx id P p + 1 : Nat) : Int) else 0 := by
  unfold numP; rw [code_place h]
theorem numP_push {P : List (Nat × Nat)} {p : Nat × Nat} (h : p.2 < 8) (hn : ¬ idx id P p < P.length) (i : Nat) : numP (P ++ [p]) i = if i = code p then ((P.length + 1 : Nat) : Int) else numP P i := by
  by_cases e : i = code p
  · rw [if_pos e, e, numP_at h, idx_snoc]
    have := idx_le id P p
    rw [if_pos (by rw [List.length_append]; simp; omega), show idx id P p = P.length by omega]
  · rw [if_neg e]
    have hne : (i / 8, i % 8) ≠ p := fun h' => e (by rw [← place_code i, h'])
    unfold numP
    by_cases h1 : idx id P (i / 8, i % 8) < P.length
    · rw [if_pos h1, idx_append id h1, if_pos (by rw [List.length_append]; omega)]
    · rw [if_neg h1, if_neg ?_]
      intro h2
      have h3 := idx_key id h2
      have h4 : (P ++ [p])[idx id (P ++ [p]) (i / 8, i % 8)] ∈ P ++ [p] := List.getElem_mem h2
      rw [show (P ++ [p])[idx id (P ++ [p]) (i / 8, i % 8)] = (i / 8, i % 8) from h3] at h4
      rcases List.mem_append.1 h4 with h5 | h5
      · exact h1 (idx_lt_of_mem id h5 rfl)
      · exact hne (by simpa using h5)

/-- What has been met, in memory: a variable with the table, one with the list. -/
structure Met (w : World) (B b4 b5 g n : Nat) (v : Value) (P : List (Nat × Nat)) : Prop where
  box4 : w.heap[b4]? = some (.cells #[.slice (some ⟨g, 0, none⟩) n n] 34 (0, 0))
  box5 : w.heap[b5]? = some (.cells #[v] 143 (0, 0))
  tab : Lst w B 2 (.slice (some ⟨g, 0, none⟩) n n) (tv n (numP P))
  lst : Plc w B v ((0, 0) :: P)
  b5B : B ≤ b5
  b45 : b4 ≠ b5

/-- What else there was stays. -/
structure MetFrame (w w' : World) (b5 g : Nat) (v v' : Value) : Prop where
  os : w'.os = w.os
  tape : w'.tape = w.tape
  output : w'.output = w.output
  size : w.heap.size ≤ w'.heap.size
  block : ∀ k, k < w.heap.size → k ≠ b5 → k ≠ g → v.ownBlock ≠ some k → w'.heap[k]? = w.heap[k]?
  at_ : v'.ownBlock = v.ownBlock ∨ ∃ q, v'.ownBlock = some q ∧ w.heap.size ≤ q

theorem or8 (a b : Nat) (ha : a < 100000000) (hb : b < 8) : bits BinOp.or IntKind.i64 ((a : Int) * 8) (b : Int) = ((a * 8 + b : Nat) : Int) := by
  have h1 : ((a : Int) * 8) = ((a * 8 : Nat) : Int) := by omega
  rw [h1]
  show IntKind.i64.wrap ((BitVec.ofInt 64 ((a * 8 : Nat) : Int) ||| BitVec.ofInt 64 ((b : Nat) : Int)).toNat : Int) = _
  have h2 : (BitVec.ofInt 64 ((a * 8 : Nat) : Int) ||| BitVec.ofInt 64 ((b : Nat) : Int)).toNat = a * 8 + b := by
    rw [BitVec.ofInt_natCast, BitVec.ofInt_natCast, BitVec.toNat_or, BitVec.toNat_ofNat, BitVec.toNat_ofNat, Nat.mod_eq_of_lt (by omega), Nat.mod_eq_of_lt (by omega)]
    have := Nat.shiftLeft_add_eq_or_of_lt (i := 3) (b := b) (by omega) a
    rw [Nat.shiftLeft_eq, show (2 : Nat) ^ 3 = 8 from rfl] at this
    exact this.symm
  rw [h2, IntKind.wrap_i64]
  omega

/-- What the walk needs of a place that is new, and what it is in the end. -/
structure MetStep (w w5 : World) (B b4 b5 g n y : Nat) (v v' : Value) (P : List (Nat × Nat)) (p : Nat × Nat) : Prop where
  box : w5.heap[b5]? = some (.cells #[v] 143 (0, 0))
  cell : w5.cell? ⟨g, y, none⟩ = some (.int .i64 ((P.length : Int) + 1))
  met : Met (w5.setCell ⟨b5, 0, none⟩ v') B b4 b5 g n v' (P ++ [p])
  frame : MetFrame w (w5.setCell ⟨b5, 0, none⟩ v') b5 g v v'

theorem Met.new {w w5 : World} {B b4 b5 g n : Nat} {v v' : Value} {P : List (Nat × Nat)} {p : Nat × Nat} (h : Met w B b4 b5 g n v P) (hp8 : p.2 < 8) (hc : code p < n) (hidx : ¬ idx id P p < P.length) (o : Obj)
    (hp5 : PushedP ((w.setCell ⟨g, code p, none⟩ (.int .i64 ((P.length : Int) + 1))).alloc o) w5 B v v' ((0, 0) :: P) p) : MetStep w w5 B b4 b5 g n (code p) v v' P p := by
  have h5g : b5 ≠ g := fun e => block_apart h.tab h.box5 (by decide) (by rw [e]; rfl)
  have h4g : b4 ≠ g := fun e => block_apart h.tab h.box4 (by decide) (by rw [e]; rfl)
  have hv5 : v.ownBlock ≠ some b5 := h.lst.not_block h.box5 (by decide)
  have hv4 : v.ownBlock ≠ some b4 := h.lst.not_block h.box4 (by decide)
  have hvg : v.ownBlock ≠ some g := h.lst.not_lst h.tab (by decide) g rfl
  have hsz : ((w.setCell ⟨g, code p, none⟩ (.int .i64 ((P.length : Int) + 1))).alloc o).heap.size = w.heap.size + 1 := by rw [size_alloc']; simp [World.setCell]
  have hk : ∀ k, k < w.heap.size → k ≠ g → v.ownBlock ≠ some k → w5.heap[k]? = w.heap[k]? := fun k h1 h2 h3 => by
    rw [hp5.grow.block k (by omega) (fun e => h3 e.symm), Below.heap_alloc _ _ _ (by simpa [World.setCell] using h1), Below.heap_setCell _ _ _ _ h2]
  have l4 := lt_of_block h.box4
  have l5 := lt_of_block h.box5
  have t1 := h.tab.set (i := code p) (by rw [tv_length]; exact hc) (.int .i64 ((P.length : Int) + 1))
  rw [tv_set] at t1
  have e1 : tv n (fun i => if i = code p then ((P.length : Int) + 1) else numP P i) = tv n (numP (P ++ [p])) := tv_congr fun i _ => by
    rw [numP_push hp8 hidx]; split <;> simp
  rw [e1] at t1
  have t5 := (t1.alloc o).grown hp5.grow fun k hk' e => h.lst.not_lst h.tab (by decide) k e hk'
  have b5' := (hk b5 l5 h5g hv5).trans h.box5
  refine ⟨b5', ?_, ⟨?_, ?_, ?_, ?_, h.b5B, h.b45⟩, ⟨?_, ?_, ?_, ?_, ?_, ?_⟩⟩
  · have := t5.cellOf (i := code p) (by rw [tv_length]; exact hc)
    rw [tv_get, numP_push hp8 hidx, if_pos rfl] at this
    rw [this]; simp
  · rw [Below.heap_setCell _ _ _ _ h.b45, hk b4 l4 h4g hv4]; exact h.box4
  · exact cells_set b5' 0 v'
  · exact t5.setOther (fun e => h5g (by injection e with e; exact e.symm)) _
  · exact hp5.plc.setOther (hp5.plc.not_block b5' (by decide)) _
  · exact hp5.grow.os
  · exact hp5.grow.tape
  · exact hp5.grow.output
  · have := hp5.grow.size; simp only [World.setCell, Array.size_modify] at *; omega
  · intro k h1 h2 h3 h4
    rw [Below.heap_setCell _ _ _ _ h2, hk k h1 h3 h4]
  · rcases hp5.at_ with e | ⟨q, e, hq⟩
    · exact .inl e
    · exact .inr ⟨q, e, by omega⟩

theorem Met.drewN {w : World} {B b4 b5 g n : Nat} {v : Value} {P : List (Nat × Nat)} (h : Met w B b4 b5 g n v P) (m : Nat) : Met (w.drewN m) B b4 b5 g n v P :=
  ⟨h.box4, h.box5, h.tab, h.lst, h.b5B, h.b45⟩
theorem Met.below {w w' : World} {B b4 b5 g n : Nat} {v : Value} {P : List (Nat × Nat)} (h : Met w B b4 b5 g n v P) (hb : Below w.heap.size w w') : Met w' B b4 b5 g n v P :=
  ⟨by rw [hb.block _ (lt_of_block h.box4)]; exact h.box4, by rw [hb.block _ (lt_of_block h.box5)]; exact h.box5, h.tab.below hb, h.lst.below hb, h.b5B, h.b45⟩
/-- A store into a block of another kind. -/
theorem Met.setOther {w : World} {B b4 b5 g n : Nat} {v : Value} {P : List (Nat × Nat)} {a : Addr} {c : Array Value} {t : TypeId} {r : Nat × Nat} (h : Met w B b4 b5 g n v P) (hb : w.heap[a.block]? = some (.cells c t r)) (h1 : t ≠ 34) (h2 : t ≠ 143) (h3 : a.block ≠ g) (h4 : t ≠ 142) (u : Value) : Met (w.setCell a u) B b4 b5 g n v P :=
  ⟨by rw [Below.heap_setCell _ _ _ _ (fun e => h1 (by have := h.box4; rw [e, hb] at this; cases this; rfl))]; exact h.box4,
   by rw [Below.heap_setCell _ _ _ _ (fun e => h2 (by have := h.box5; rw [e, hb] at this; cases this; rfl))]; exact h.box5,
   h.tab.setOther (fun e => h3 (by injection e with e; exact e.symm)) u, h.lst.setOther (h.lst.not_block hb h4) u, h.b5B, h.b45⟩
/-- An element more in a list of another kind. -/
theorem Met.grown {w w' : World} {B b4 b5 g n : Nat} {v : Value} {P : List (Nat × Nat)} (h : Met w B b4 b5 g n v P) {t : TypeId} {u : Value} {xs : List Value} (hl : Lst w B t u xs) (hg : w.grownBy w' u.ownBlock) (h1 : u.ownBlock ≠ some b4) (h2 : t ≠ 143) (h3 : u.ownBlock ≠ some g) (h4 : t ≠ 142) : Met w' B b4 b5 g n v P :=
  ⟨by rw [hg.block _ (lt_of_block h.box4) (fun e => h1 e.symm)]; exact h.box4,
   by rw [hg.block _ (lt_of_block h.box5) (fun e => block_apart hl h.box5 h2 e.symm)]; exact h.box5,
   h.tab.grown hg (fun k hk e => h3 (by cases e; exact hk)), h.lst.grown hg (fun k hk => h.lst.not_lst hl h4 k hk), h.b5B, h.b45⟩

theorem Met.alloc {w : World} {B b4 b5 g n : Nat} {v : Value} {P : List (Nat × Nat)} (h : Met w B b4 b5 g n v P) (o : Obj) : Met (w.alloc o) B b4 b5 g n v P :=
  ⟨by rw [Below.heap_alloc _ _ _ (lt_of_block h.box4)]; exact h.box4, by rw [Below.heap_alloc _ _ _ (lt_of_block h.box5)]; exact h.box5, h.tab.alloc o, h.lst.alloc o, h.b5B, h.b45⟩

set_option maxHeartbeats 1000000 in
theorem meet (p : Nat × Nat) (w : World) (B b4 b5 g n : Nat) (v : Value) (P : List (Nat × Nat)) (h : Met w B b4 b5 g n v P) (hB : B ≤ w.heap.size) (hp : p.1 < 100000000) (hp8 : p.2 < 8) (hc : code p < n) (hn : n ≤ 100000000) (hP : P.length ≤ 10000000) :
    Calls Tryd.prog 102 #[.agg #[.int .i64 (p.1 : Nat), .int .i64 (p.2 : Nat)], .pointer (some ⟨b4, 0, none⟩), .pointer (some ⟨b5, 0, none⟩)] w fun e w' =>
      ∃ v', e = .returned (.int .i64 ((idx id P p + 1 : Nat) : Int)) ∧ Met w' B b4 b5 g n v' (TidyMath.meet id P p) ∧ MetFrame w w' b5 g v v' := by
  have HM := Lib.hid h
  have c4 := cells_get h.box4 0
  have c5 := cells_get h.box5 0
  simp at c4 c5
  have l4 := lt_of_block h.box4
  have l5 := lt_of_block h.box5
  have f5 := cells_free h.box5 0
  have cN := h.tab.cellOf (i := code p) (by rw [tv_length]; exact hc)
  rw [tv_get, numP_at hp8] at cN
  have lN := World.block_lt_of_cell? _ _ cN
  have fN := h.tab.free (code p)
  obtain ⟨g5, n5, cp5, rfl, HN5, HG5⟩ := h.lst.shape' (Nat.succ_pos _)
  obtain ⟨p1, p2⟩ := p
  have hor := or8 p1 p2 hp hp8
  obtain ⟨y, hy⟩ : ∃ y, y = code (p1, p2) := ⟨_, rfl⟩
  have hor' : bits BinOp.or IntKind.i64 ((p1 : Int) * 8) (p2 : Int) = ((y : Nat) : Int) := by rw [hor, hy]; rfl
  obtain ⟨d, hd⟩ : ∃ d, d = idx id P (p1, p2) := ⟨_, rfl⟩
  have HD := Lib.hid hd
  have HY := Lib.hid hy
  have HP8 := Lib.hid hp8
  rw [← hy] at cN fN hc
  rw [← hd] at cN
  rw [← hd]
  have hdP := idx_le id P (p1, p2)
  rw [← hd] at hdP
  have hn5 : n5 = P.length + 1 := HN5.out
  clear h hor hy hd
  by_cases hlt : d < P.length
  · rw [if_pos hlt] at cN
    have HMM := Lib.hid (show TidyMath.meet id P (p1, p2) = P by unfold TidyMath.meet; rw [if_pos (by rw [← HD.out]; exact hlt)])
    have hz : (((d + 1 : Nat) : Int) == 0) = false := by simp; omega
    obtain ⟨x, hx⟩ : ∃ x, x = d + 1 := ⟨_, rfl⟩
    rw [← hx] at cN hz
    rw [← hx]
    clear hx
    go_enter Tryd.func102, Tryd.ntmps102
    go_wp2_with fail
    go_ret
    exact ⟨rfl, _, by rw [HMM.out, ← hn5]; exact HM.out.alloc _, ⟨rfl, rfl, rfl, by simp, fun k hk _ _ _ => Below.heap_alloc _ _ _ hk, .inl rfl⟩⟩
  · rw [if_neg hlt] at cN
    have HDE := Lib.hid (show d = P.length by omega)
    have HMM := Lib.hid (show TidyMath.meet id P (p1, p2) = P ++ [(p1, p2)] by unfold TidyMath.meet; rw [if_neg (by rw [← HD.out]; exact hlt)])
    have h5g : b5 ≠ g := fun e => block_apart HM.out.tab HM.out.box5 (by decide) (by rw [e]; rfl)
    have h5g' : g ≠ b5 := Ne.symm h5g
    go_enter Tryd.func102, Tryd.ntmps102
    have HPL := Lib.hid (show Plc (w.setCell ⟨g, y, none⟩ (.int .i64 ((P.length : Int) + 1))) B (.slice (some ⟨g5, 0, none⟩) (P.length + 1) cp5) ((0, 0) :: P) by
      rw [← hn5]; exact HM.out.lst.setOther (a := ⟨g, y, none⟩) (HM.out.lst.not_lst HM.out.tab (by decide) g rfl) _)
    have HBB := Lib.hid (show B ≤ (w.setCell ⟨g, y, none⟩ (.int .i64 ((P.length : Int) + 1))).heap.size by simpa [World.setCell] using hB)
    have HLL := Lib.hid (show ((0, 0) :: P).length ≤ 100000000 by rw [List.length_cons]; omega)
    have HNW := Lib.hid (fun o w5 v' hp5 => HM.out.new (w5 := w5) (v' := v') HP8.out (by rw [← HY.out]; exact hc) (by rw [← HD.out]; exact hlt) o hp5)
    rw [← HY.out, hn5] at HNW
    go_wp2_with (at_builtin; refine wpList_pushP rfl _ _ rfl B (.slice (some ⟨g5, 0, none⟩) (P.length + 1) cp5) ((0, 0) :: P) (p1, p2) (HPL.out.alloc _) (by rw [size_alloc']; exact Nat.le_succ_of_le HBB.out) HLL.out rfl _ rfl (by simp [World.setCell]) ?_; intro v5 w5 hp5; have HS := Lib.hid (HNW.out _ _ _ hp5); obtain ⟨g6, n6, cp6, rfl, HN6, HG6⟩ := hp5.plc.shape' (by simp); have q5 := cells_get HS.out.box 0; have z5 := cells_free HS.out.box 0; have l5' := lt_of_block HS.out.box; have c6 := HS.out.cell; have l6 := World.block_lt_of_cell? _ _ c6; simp at q5; clear hp5)
    go_ret
    exact ⟨by rw [HDE.out]; rfl, _, by rw [HMM.out]; exact HS.out.met, HS.out.frame⟩
end Go.Proofs.YtgaipjofhkijbaaDoor.Places
