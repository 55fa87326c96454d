
/- Lists of places (two numbers each) that a function makes and appends to; the table of their numbers; what the program's function that meets a place does.
   Conditions: stated at each theorem. -/
import Derived.Test.YtaimealknkhfbaaDoorRB6
import Derived.Test.YtaimealknkhfbaaDoorRB2
import Derived.Deep.RegionWith
import Derived.Test.YtaimealknkhfbaaDoorRows
import Derived.Test.YtaimealknkhfbaaDoorRB1
import Derived.WalkKit
import Derived.ProofKit
import Derived.Lib.Hide
import Derived.Maps.Own
import Derived.Maps.OwnOps
import Derived.Maps.OwnSet
import Derived.Maps.Views
import Derived.DeepKeys5
namespace Go.Proofs.YtaimealknkhfbaaDoor.Places
set_option linter.unusedVariables false
set_option linter.unusedSimpArgs false
open Go.RowKit Mem Copy Rel Heap Bld TidyMath TidyRight

def flat : List (Nat × Nat) → List Value
  | [] => []
  | p :: r => .int .i64 (p.1 : Nat) :: .int .i64 (p.2 : Nat) :: flat r
theorem flat_length : ∀ ps : List (Nat × Nat), (flat ps).length = ps.length * 2
  | [] => rfl
  | p :: r => by rw [flat, List.length_cons, List.length_cons, flat_length r, List.length_cons]; omega
theorem flat_append : ∀ (ps qs : List (Nat × Nat)), flat (ps ++ qs) = flat ps ++ flat qs
  | [], qs => rfl
  | p :: r, qs => by rw [List.cons_append, flat, flat, flat_append r, List.cons_append, List.cons_append]
theorem flat_get : ∀ (ps : List (Nat × Nat)) (i : Nat) (h : i < ps.length), (flat ps)[i * 2]? = some (.int .i64 (ps[i].1 : Nat)) ∧ (flat ps)[i * 2 + 1]? = some (.int .i64 (ps[i].2 : Nat))
  | p :: r, 0, h => ⟨rfl, rfl⟩
  | p :: r, i + 1, h => by
    have := flat_get r i (by simpa using h)
    rw [flat, show (i + 1) * 2 = i * 2 + 1 + 1 by omega, List.getElem?_cons_succ, List.getElem?_cons_succ, List.getElem?_cons_succ, List.getElem?_cons_succ]
    exact this

/-- The slice value v is a list of the function's own of the places ps. -/
def Plc (w : World) (B : Nat) (v : Value) (ps : List (Nat × Nat)) : Prop := w.ownsRow B 127 2 v ps.length (flat ps)
theorem Plc.lt {w : World} {B : Nat} {v : Value} {ps : List (Nat × Nat)} (h : Plc w B v ps) {k : Nat} (hk : v.ownBlock = some k) : k < w.heap.size := (World.ownsRow.lt h k hk).2
theorem Plc.ge {w : World} {B : Nat} {v : Value} {ps : List (Nat × Nat)} (h : Plc w B v ps) {k : Nat} (hk : v.ownBlock = some k) : B ≤ k := (World.ownsRow.lt h k hk).1
theorem Plc.of_block {w w' : World} {B : Nat} {v : Value} {ps : List (Nat × Nat)} (h : Plc w B v ps) (hb : ∀ k, v.ownBlock = some k → w'.heap[k]? = w.heap[k]?) : Plc w' B v ps := by
  refine ⟨h.1, ?_⟩
  rcases h.2 with h' | ⟨g, cap, cur, hv, hbg, hh, r⟩
  · exact .inl h'
  · refine .inr ⟨g, cap, cur, hv, hbg, ?_, r⟩
    rw [hb g (by rw [hv]; rfl)]; exact hh
theorem Plc.grown {w w' : World} {B : Nat} {v : Value} {ps : List (Nat × Nat)} {row : Option Nat} (h : Plc w B v ps) (hg : w.grownBy w' row) (hr : ∀ k, row = some k → v.ownBlock ≠ some k) : Plc w' B v ps :=
  h.of_block fun k hk => hg.block k (h.lt hk) (fun e => hr k e.symm hk)
theorem Plc.below {w w' : World} {B : Nat} {v : Value} {ps : List (Nat × Nat)} (h : Plc w B v ps) (hb : Below w.heap.size w w') : Plc w' B v ps :=
  h.of_block fun k hk => hb.block k (h.lt hk)
theorem Plc.alloc {w : World} {B : Nat} {v : Value} {ps : List (Nat × Nat)} (h : Plc w B v ps) (o : Obj) : Plc (w.alloc o) B v ps := h.below ((Below.refl _ _).alloc (Nat.le_refl _) _)
theorem Plc.drewN {w : World} {B : Nat} {v : Value} {ps : List (Nat × Nat)} (h : Plc w B v ps) (m : Nat) : Plc (w.drewN m) B v ps := h
theorem Plc.setOther {w : World} {B : Nat} {v : Value} {ps : List (Nat × Nat)} (h : Plc w B v ps) {a : Addr} (ha : v.ownBlock ≠ some a.block) (u : Value) : Plc (w.setCell a u) B v ps :=
  h.of_block fun k hk => Below.heap_setCell _ _ _ _ (fun e => ha (by rw [← e]; exact hk))
theorem Plc.block {w : World} {B : Nat} {v : Value} {ps : List (Nat × Nat)} (h : Plc w B v ps) (hn : 0 < ps.length) : ∃ g cap cur, v = .slice (some ⟨g, 0, none⟩) ps.length cap ∧ B ≤ g ∧ w.heap[g]? = some (.cells cur 127 (0, 0)) ∧
    ∀ i (hi : i < ps.length), cur[i * 2]? = some (.int .i64 (ps[i].1 : Nat)) ∧ cur[i * 2 + 1]? = some (.int .i64 (ps[i].2 : Nat)) := by
  rcases h.2 with ⟨rfl, h0⟩ | ⟨g, cap, cur, rfl, hbg, hh, hnc, hc, hs, ht⟩
  · omega
  · refine ⟨g, cap, cur, rfl, hbg, hh, fun i hi => ?_⟩
    have h1 := flat_get ps i hi
    rw [← ht] at h1
    rw [List.getElem?_take, List.getElem?_take] at h1
    rw [if_pos (by omega), if_pos (by omega)] at h1
    simpa using h1
theorem Plc.shape' {w : World} {B : Nat} {v : Value} {ps : List (Nat × Nat)} (h : Plc w B v ps) (hn : 0 < ps.length) : ∃ g n cap, v = .slice (some ⟨g, 0, none⟩) n cap ∧ Hid (n = ps.length) ∧ Hid (g < w.heap.size) := by
  obtain ⟨g, cap, cur, hv, hB, hh, -⟩ := h.block hn
  exact ⟨g, _, cap, hv, rfl, lt_of_block hh⟩
/-- Blocks of other kinds are other blocks. -/
theorem Plc.not_block {w : World} {B : Nat} {v : Value} {ps : List (Nat × Nat)} {k : Nat} {c : Array Value} {t : TypeId} {r : Nat × Nat} (h : Plc w B v ps) (hb : w.heap[k]? = some (.cells c t r)) (ht : t ≠ 127) : v.ownBlock ≠ some k := by
  intro e
  rcases h.2 with ⟨rfl, -⟩ | ⟨g, cap, cur, rfl, hbg, hh, -⟩
  · cases e
  · cases e
    rw [hh] at hb
    cases hb
    exact ht rfl
theorem Plc.not_lst {w : World} {B B' : Nat} {t : TypeId} {v v' : Value} {ps : List (Nat × Nat)} {xs : List Value} (h : Plc w B v ps) (h' : Lst w B' t v' xs) (ht : t ≠ 127) (k : Nat) (e : v'.ownBlock = some k) : v.ownBlock ≠ some k := by
  rcases h'.2 with ⟨rfl, -⟩ | ⟨g, cap, cur, rfl, hbg, hh, -⟩
  · cases e
  · cases e
    exact h.not_block hh ht

theorem infoP : (Tryd.prog.info? 127).map (fun i => (i.zero, i.size, i.bytes)) = some (some (.agg #[.int .i64 0, .int .i64 0]), 2, 16) := by kernel_rfl

structure PushedP (w w' : World) (B : Nat) (v v' : Value) (ps : List (Nat × Nat)) (p : Nat × Nat) : Prop where
  plc : Plc w' B v' (ps ++ [p])
  grow : w.grownBy w' v.ownBlock
  at_ : v'.ownBlock = v.ownBlock ∨ ∃ g, v'.ownBlock = some g ∧ w.heap.size ≤ g

theorem wpList_pushP {w : World} {ops : Array Oper} {rest : List Oper} {o : Oper} {a : Act} {Q : Exit → Act → World → Prop} (hgd : o.guard = none) (s x : Operand)
    (ho : o.op = .call { callee := .builtin .append, args := #[s, x], argTypes := #[128, 128] })
    (B : Nat) (v : Value) (ps : List (Nat × Nat)) (p : Nat × Nat) (hown : Plc w B v ps) (hB : B ≤ w.heap.size) (hlen : ps.length ≤ 100000000) (hs : a.eval s = v) (N : Nat) (hx : a.eval x = .slice (some ⟨N, 0, none⟩) 1 1) (hN : w.heap.size = N)
    (h : ∀ v' w', PushedP w w' B v v' ps p → wpList Tryd.prog ops Q rest (a.put o.dst v') w') : wpList Tryd.prog ops Q (o :: rest) a (w.alloc (.cells #[.int .i64 (p.1 : Nat), .int .i64 (p.2 : Nat)] 127)) := by
  obtain ⟨i, hi, hz, hsize, hbytes⟩ := info_parts infoP
  subst hN
  refine wpList_append_own_at (P := Tryd.prog) _ hgd s x 128 ho B 127 i (.agg #[.int .i64 0, .int .i64 0]) 2 16 Tryd.underlying128 hi hz hsize hbytes rfl (by decide) v ps.length (flat ps) hs (Plc.alloc hown _) ⟨w.heap.size, 0, none⟩ 1 1 [.int .i64 (p.1 : Nat), .int .i64 (p.2 : Nat)] hx rfl ?_ ?_ (by unfold maxLen; omega) ?_ (by simp; omega) ?_
  · intro j u' hj
    match j, hj with
    | 0, hj => simp at hj; subst hj; exact World.cell?_alloc_mark ..
    | 1, hj => simp at hj; subst hj; exact World.cell?_alloc_mark ..
  · intro u' hu
    simp at hu
    rcases hu with rfl | rfl <;> rfl
  · have : (ps.length + 1) * 16 ≤ 100000001 * 16 := Nat.mul_le_mul (by omega) (Nat.le_refl _)
    omega
  · intro v' w' hown' hg _ hat
    refine h v' w' ⟨?_, grown_trans_alloc hg, ?_⟩
    · unfold Plc
      rw [List.length_append, flat_append]
      exact hown'
    · rcases hat with e | e
      · exact .inl e
      · exact .inr ⟨_, e, by simp⟩

/-- The place with a number, and the table: one more than where it has been met, 0 if it has not. -/
def code (p : Nat × Nat) : Nat := p.1 * 8 + p.2
def numP (P : List (Nat × Nat)) (i : Nat) : Int := if idx id P (i / 8, i % 8) < P.length then ((idx id P (i / 8, i % 8) + 1 : Nat) : Int) else 0
theorem code_place {p : Nat × Nat} (h : p.2 < 8) : (code p / 8, code p % 8) = p := by
  unfold code
  exact Prod.ext (by show (p.1 * 8 + p.2) / 8 = p.1; omega) (by show (p.1 * 8 + p.2) % 8 = p.2; omega)
theorem place_code (i : Nat) : code (i / 8, i % 8) = i := by
  unfold code
  show i / 8 * 8 + i % 8 = i; omega
theorem numP_at {P : List (Nat × Nat)} {p : Nat × Nat} (h : p.2 < 8) : numP P (code p) = if idx id P p < P.length then ((idx id P p + 1 : Nat) : Int) else 0 := by
  unfold numP; rw [code_place h]
theorem numP_push {P : List (Nat × Nat)} {p : Nat × Nat} (h : p.2 < 8) (hn : ¬ idx id P p < P.length) (i : Nat) : numP (P ++ [p]) i = if i = code p then ((P.length + 1 : Nat) : Int) else numP P i := by
  by_cases e : i = code p
  · rw [if_pos e, e, numP_at h, idx_snoc]
    have := idx_le id P p
    rw [if_pos (by rw [List.length_append]; simp; omega), show idx id P p = P.length by omega]
  · rw [if_neg e]
    have hne : (i / 8, i % 8) ≠ p := fun h' => e (by rw [← place_code i, h'])
    unfold numP
    by_cases h1 : idx id P (i / 8, i % 8) < P.length
    · rw [if_pos h1, idx_append id h1, if_pos (by rw [List.length_append]; omega)]
    · rw [if_neg h1, if_neg ?_]
      intro h2
      have h3 := idx_key id h2
      have h4 : (P ++ [p])[idx id (P ++ [p]) (i / 8, i % 8)] ∈ P ++ [p] := List.getElem_mem h2
      rw [show (P ++ [p])[idx id (P ++ [p]) (i / 8, i % 8)] = (i / 8, i % 8) from h3] at h4
      rcases List.mem_append.1 h4 with h5 | h5
      · exact h1 (idx_lt_of_mem id h5 rfl)
      · exact hne (by simpa using h5)

/-- What has been met, in memory: a variable with the table, one with the list. -/
structure Met (w : World) (B b4 b5 g n : Nat) (v : Value) (P : List (Nat × Nat)) : Prop where
  box4 : w.heap[b4]? = some (.cells #[.slice (some ⟨g, 0, none⟩) n n] 52 (0, 0))
  box5 : w.heap[b5]? = some (.cells #[v] 128 (0, 0))
  tab : Lst w B 2 (.slice (some ⟨g, 0, none⟩) n n) (tv n (numP P))
  lst : Plc w B v ((0, 0) :: P)
  b5B : B ≤ b5
  b45 : b4 ≠ b5

/-- What else there was stays. -/
structure MetFrame (w w' : World) (b5 g : Nat) (v v' : Value) : Prop where
  os : w'.os = w.os
  tape : w'.tape = w.tape
  output : w'.output = w.output
  size : w.heap.size ≤ w'.heap.size
  block : ∀ k, k < w.heap.size → k ≠ b5 → k ≠ g → v.ownBlock ≠ some k → w'.heap[k]? = w.heap[k]?
  at_ : v'.ownBlock = v.ownBlock ∨ ∃ q, v'.ownBlock = some q ∧ w.heap.size ≤ q

theorem or8 (a b : Nat) (ha : a < 100000000) (hb : b < 8) : bits BinOp.or IntKind.i64 ((a : Int) * 8) (b : Int) = ((a * 8 + b : Nat) : Int) := by
  have h1 : ((a : Int) * 8) = ((a * 8 : Nat) : Int) := by omega
  rw [h1]
  show IntKind.i64.wrap ((BitVec.ofInt 64 ((a * 8 : Nat) : Int) ||| BitVec.ofInt 64 ((b : Nat) : Int)).toNat : Int) = _
  have h2 : (BitVec.ofInt 64 ((a * 8 : Nat) : Int) ||| BitVec.ofInt 64 ((b : Nat) : Int)).toNat = a * 8 + b := by
    rw [BitVec.ofInt_natCast, BitVec.ofInt_natCast, BitVec.toNat_or, BitVec.toNat_ofNat, BitVec.toNat_ofNat, Nat.mod_eq_of_lt (by omega), Nat.mod_eq_of_lt (by omega)]
    have := Nat.shiftLeft_add_eq_or_of_lt (i := 3) (b := b) (by omega) a
    rw [Nat.shiftLeft_eq, show (2 : Nat) ^ 3 = 8 from rfl] at this
    exact this.symm
  rw [h2, IntKind.wrap_i64]
  omega

/-- What the walk needs of a place that is new, and what it is in the end. -/
structure MetStep (w w5 : World) (B b4 b5 g n y : Nat) (v v' : Value) (P : List (Nat × Nat)) (p : Nat × Nat) : Prop where
  box : w5.heap[b5]? = some (.cells #[v] 128 (0, 0))
  cell : w5.cell? ⟨g, y, none⟩ = some (.int .i64 ((P.length : Int) + 1))
  met : Met (w5.setCell ⟨b5, 0, none⟩ v') B b4 b5 g n v' (P ++ [p])
  frame : MetFrame w (w5.setCell ⟨b5, 0, none⟩ v') b5 g v v'

theorem Met.new {w w5 : World} {B b4 b5 g n : Nat} {v v' : Value} {P : List (Nat × Nat)} {p : Nat × Nat} (h : Met w B b4 b5 g n v P) (hp8 : p.2 < 8) (hc : code p < n) (hidx : ¬ idx id P p < P.length) (o : Obj)
    (hp5 : PushedP ((w.setCell ⟨g, code p, none⟩ (.int .i64 ((P.length : Int) + 1))).alloc o) w5 B v v' ((0, 0) :: P) p) : MetStep w w5 B b4 b5 g n (code p) v v' P p := by
  have h5g : b5 ≠ g := fun e => block_apart h.tab h.box5 (by decide) (by rw [e]; rfl)
  have h4g : b4 ≠ g := fun e => block_apart h.tab h.box4 (by decide) (by rw [e]; rfl)
  have hv5 : v.ownBlock ≠ some b5 := h.lst.not_block h.box5 (by decide)
  have hv4 : v.ownBlock ≠ some b4 := h.lst.not_block h.box4 (by decide)
  have hvg : v.ownBlock ≠ some g := h.lst.not_lst h.tab (by decide) g rfl
  have hsz : ((w.setCell ⟨g, code p, none⟩ (.int .i64 ((P.length : Int) + 1))).alloc o).heap.size = w.heap.size + 1 := by rw [size_alloc']; simp [World.setCell]
  have hk : ∀ k, k < w.heap.size → k ≠ g → v.ownBlock ≠ some k → w5.heap[k]? = w.heap[k]? := fun k h1 h2 h3 => by
    rw [hp5.grow.block k (by omega) (fun e => h3 e.symm), Below.heap_alloc _ _ _ (by simpa [World.setCell] using h1), Below.heap_setCell _ _ _ _ h2]
  have l4 := lt_of_block h.box4
  have l5 := lt_of_block h.box5
  have t1 := h.tab.set (i := code p) (by rw [tv_length]; exact hc) (.int .i64 ((P.length : Int) + 1))
  rw [tv_set] at t1
  have e1 : tv n (fun i => if i = code p then ((P.length : Int) + 1) else numP P i) = tv n (numP (P ++ [p])) := tv_congr fun i _ => by
    rw [numP_push hp8 hidx]; split <;> simp
  rw [e1] at t1
  have t5 := (t1.alloc o).grown hp5.grow fun k hk' e => h.lst.not_lst h.tab (by decide) k e hk'
  have b5' := (hk b5 l5 h5g hv5).trans h.box5
  refine ⟨b5', ?_, ⟨?_, ?_, ?_, ?_, h.b5B, h.b45⟩, ⟨?_, ?_, ?_, ?_, ?_, ?_⟩⟩
  · have := t5.cellOf (i := code p) (by rw [tv_length]; exact hc)
    rw [tv_get, numP_push hp8 hidx, if_pos rfl] at this
    rw [this]; simp
  · rw [Below.heap_setCell _ _ _ _ h.b45, hk b4 l4 h4g hv4]; exact h.box4
  · exact cells_set b5' 0 v'
  · exact t5.setOther (fun e => h5g (by injection e with e; exact e.symm)) _
  · exact hp5.plc.setOther (hp5.plc.not_block b5' (by decide)) _
  · exact hp5.grow.os
  · exact hp5.grow.tape
  · exact hp5.grow.output
  · have := hp5.grow.size; simp only [World.setCell, Array.size_modify] at *; omega
  · intro k h1 h2 h3 h4
    rw [Below.heap_setCell _ _ _ _ h2, hk k h1 h3 h4]
  · rcases hp5.at_ with e | ⟨q, e, hq⟩
    · exact .inl e
    · exact .inr ⟨q, e, by omega⟩

theorem Met.drewN {w : World} {B b4 b5 g n : Nat} {v : Value} {P : List (Nat × Nat)} (h : Met w B b4 b5 g n v P) (m : Nat) : Met (w.drewN m) B b4 b5 g n v P :=
  ⟨h.box4, h.box5, h.tab, h.lst, h.b5B, h.b45⟩
theorem Met.below {w w' : World} {B b4 b5 g n : Nat} {v : Value} {P : List (Nat × Nat)} (h : Met w B b4 b5 g n v P) (hb : Below w.heap.size w w') : Met w' B b4 b5 g n v P :=
  ⟨by rw [hb.block _ (lt_of_block h.box4)]; exact h.box4, by rw [hb.block _ (lt_of_block h.box5)]; exact h.box5, h.tab.below hb, h.lst.below hb, h.b5B, h.b45⟩
/-- A store into a block of another kind. -/
theorem Met.setOther {w : World} {B b4 b5 g n : Nat} {v : Value} {P : List (Nat × Nat)} {a : Addr} {c : Array Value} {t : TypeId} {r : Nat × Nat} (h : Met w B b4 b5 g n v P) (hb : w.heap[a.block]? = some (.cells c t r)) (h1 : t ≠ 52) (h2 : t ≠ 128) (h3 : a.block ≠ g) (h4 : t ≠ 127) (u : Value) : Met (w.setCell a u) B b4 b5 g n v P :=
  ⟨by rw [Below.heap_setCell _ _ _ _ (fun e => h1 (by have := h.box4; rw [e, hb] at this; cases this; rfl))]; exact h.box4,
   by rw [Below.heap_setCell _ _ _ _ (fun e => h2 (by have := h.box5; rw [e, hb] at this; cases this; rfl))]; exact h.box5,
   h.tab.setOther (fun e => h3 (by injection e with e; exact e.symm)) u, h.lst.setOther (h.lst.not_block hb h4) u, h.b5B, h.b45⟩
/-- An element more in a list of another kind. -/
theorem Met.grown {w w' : World} {B b4 b5 g n : Nat} {v : Value} {P : List (Nat × Nat)} (h : Met w B b4 b5 g n v P) {t : TypeId} {u : Value} {xs : List Value} (hl : Lst w B t u xs) (hg : w.grownBy w' u.ownBlock) (h1 : u.ownBlock ≠ some b4) (h2 : t ≠ 128) (h3 : u.ownBlock ≠ some g) (h4 : t ≠ 127) : Met w' B b4 b5 g n v P :=
  ⟨by rw [hg.block _ (lt_of_block h.box4) (fun e => h1 e.symm)]; exact h.box4,
   by rw [hg.block _ (lt_of_block h.box5) (fun e => block_apart hl h.box5 h2 e.symm)]; exact h.box5,
   h.tab.grown hg (fun k hk e => h3 (by cases e; exact hk)), h.lst.grown hg (fun k hk => h.lst.not_lst hl h4 k hk), h.b5B, h.b45⟩

theorem Met.alloc {w : World} {B b4 b5 g n : Nat} {v : Value} {P : List (Nat × Nat)} (h : Met w B b4 b5 g n v P) (o : Obj) : Met (w.alloc o) B b4 b5 g n v P :=
  ⟨by rw [Below.heap_alloc _ _ _ (lt_of_block h.box4)]; exact h.box4, by rw [Below.heap_alloc _ _ _ (lt_of_block h.box5)]; exact h.box5, h.tab.alloc o, h.lst.alloc o, h.b5B, h.b45⟩

set_option maxHeartbeats 1000000 in
theorem meet (p : Nat × Nat) (w : World) (B b4 b5 g n : Nat) (v : Value) (P : List (Nat × Nat)) (h : Met w B b4 b5 g n v P) (hB : B ≤ w.heap.size) (hp : p.1 < 100000000) (hp8 : p.2 < 8) (hc : code p < n) (hn : n ≤ 100000000) (hP : P.length ≤ 10000000) :
    Calls Tryd.prog 77 #[.agg #[.int .i64 (p.1 : Nat), .int .i64 (p.2 : Nat)], .pointer (some ⟨b4, 0, none⟩), .pointer (some ⟨b5, 0, none⟩)] w fun e w' =>
      ∃ v', e = .returned (.int .i64 ((idx id P p + 1 : Nat) : Int)) ∧ Met w' B b4 b5 g n v' (TidyMath.meet id P p) ∧ MetFrame w w' b5 g v v' := by
  have HM := Lib.hid h
  have c4 := cells_get h.box4 0
  have c5 := cells_get h.box5 0
  simp at c4 c5
  have l4 := lt_of_block h.box4
  have l5 := lt_of_block h.box5
  have f5 := cells_free h.box5 0
  have cN := h.tab.cellOf (i := code p) (by rw [tv_length]; exact hc)
  rw [tv_get, numP_at hp8] at cN
  have lN := World.block_lt_of_cell? _ _ cN
  have fN := h.tab.free (code p)
  obtain ⟨g5, n5, cp5, rfl, HN5, HG5⟩ := h.lst.shape' (Nat.succ_pos _)
  obtain ⟨p1, p2⟩ := p
  have hor := or8 p1 p2 hp hp8
  obtain ⟨y, hy⟩ : ∃ y, y = code (p1, p2) := ⟨_, rfl⟩
  have hor' : bits BinOp.or IntKind.i64 ((p1 : Int) * 8) (p2 : Int) = ((y : Nat) : Int) := by rw [hor, hy]; rfl
  obtain ⟨d, hd⟩ : ∃ d, d = idx id P (p1, p2) := ⟨_, rfl⟩
  have HD := Lib.hid hd
  have HY := Lib.hid hy
  have HP8 := Lib.hid hp8
  rw [← hy] at cN fN hc
  rw [← hd] at cN
  rw [← hd]
  have hdP := idx_le id P (p1, p2)
  rw [← hd] at hdP
  have hn5 : n5 = P.length + 1 := HN5.out
  clear h hor hy hd
  by_cases hlt : d < P.length
  · rw [if_pos hlt] at cN
    have HMM := Lib.hid (show TidyMath.meet id P (p1, p2) = P by unfold TidyMath.meet; rw [if_pos (by rw [← HD.out]; exact hlt)])
    have hz : (((d + 1 : Nat) : Int) == 0) = false := by simp; omega
    obtain ⟨x, hx⟩ : ∃ x, x = d + 1 := ⟨_, rfl⟩
    rw [← hx] at cN hz
    rw [← hx]
    clear hx
    go_enter Tryd.func77, Tryd.ntmps77
    go_wp2_with fail
    go_ret
    exact ⟨rfl, _, by rw [HMM.out, ← hn5]; exact HM.out.alloc _, ⟨rfl, rfl, rfl, by simp, fun k hk _ _ _ => Below.heap_alloc _ _ _ hk, .inl rfl⟩⟩
  · rw [if_neg hlt] at cN
    have HDE := Lib.hid (show d = P.length by omega)
    have HMM := Lib.hid (show TidyMath.meet id P (p1, p2) = P ++ [(p1, p2)] by unfold TidyMath.meet; rw [if_neg (by rw [← HD.out]; exact hlt)])
    have h5g : b5 ≠ g := fun e => block_apart HM.out.tab HM.out.box5 (by decide) (by rw [e]; rfl)
    have h5g' : g ≠ b5 := Ne.symm h5g
    go_enter Tryd.func77, Tryd.ntmps77
    have HPL := Lib.hid (show Plc (w.setCell ⟨g, y, none⟩ (.int .i64 ((P.length : Int) + 1))) B (.slice (some ⟨g5, 0, none⟩) (P.length + 1) cp5) ((0, 0) :: P) by
      rw [← hn5]; exact HM.out.lst.setOther (a := ⟨g, y, none⟩) (HM.out.lst.not_lst HM.out.tab (by decide) g rfl) _)
    have HBB := Lib.hid (show B ≤ (w.setCell ⟨g, y, none⟩ (.int .i64 ((P.length : Int) + 1))).heap.size by simpa [World.setCell] using hB)
    have HLL := Lib.hid (show ((0, 0) :: P).length ≤ 100000000 by rw [List.length_cons]; omega)
    have HNW := Lib.hid (fun o w5 v' hp5 => HM.out.new (w5 := w5) (v' := v') HP8.out (by rw [← HY.out]; exact hc) (by rw [← HD.out]; exact hlt) o hp5)
    rw [← HY.out, hn5] at HNW
    go_wp2_with (at_builtin; refine wpList_pushP rfl _ _ rfl B (.slice (some ⟨g5, 0, none⟩) (P.length + 1) cp5) ((0, 0) :: P) (p1, p2) (HPL.out.alloc _) (by rw [size_alloc']; exact Nat.le_succ_of_le HBB.out) HLL.out rfl _ rfl (by simp [World.setCell]) ?_; intro v5 w5 hp5; have HS := Lib.hid (HNW.out _ _ _ hp5); obtain ⟨g6, n6, cp6, rfl, HN6, HG6⟩ := hp5.plc.shape' (by simp); have q5 := cells_get HS.out.box 0; have z5 := cells_free HS.out.box 0; have l5' := lt_of_block HS.out.box; have c6 := HS.out.cell; have l6 := World.block_lt_of_cell? _ _ c6; simp at q5; clear hp5)
    go_ret
    exact ⟨by rw [HDE.out]; rfl, _, by rw [HMM.out]; exact HS.out.met, HS.out.frame⟩
end Go.Proofs.YtaimealknkhfbaaDoor.Places
/- The keys by which the program tells classes of states: what they read as, what its map holds behind so many states, and a law for emptying a map.
   Conditions: stated at each theorem. -/
namespace Go.Proofs.YtaimealknkhfbaaDoor.Sigs
set_option linter.unusedVariables false
set_option maxRecDepth 20000
set_option linter.unusedSimpArgs false
open Go.RowKit Go.Maps TidyMath TidyClass

theorem laidOut : laidOutB Tryd.prog = true := by kernel_rfl
theorem law : Keyed Tryd.prog 134 := Keyed.of_law (deep_law_gate laidOut (of_decide_eq_true (by kernel_rfl)) (of_decide_eq_true (by kernel_rfl)) (by kernel_rfl) (by kernel_rfl))
theorem zero32 (w : World) : (zeroValue 21).run Tryd.prog w = .ok (.int .i32 0) w := by kernel_rfl
theorem keyT : Tryd.prog.keyType 134 = true := by kernel_rfl
theorem cellsT : Tryd.prog.cellsOf 134 = 27 := by kernel_rfl
theorem cellsE : Tryd.prog.cellsOf 21 = 1 := by kernel_rfl
theorem underT : Tryd.prog.underlying 134 = some (.array 27 21) := by kernel_rfl
theorem underE : Tryd.prog.underlying 21 = some (.int .i32) := by kernel_rfl
theorem typesS : ∃ m, Tryd.prog.types.size = m + 1 := ⟨Tryd.prog.types.size - 1, by kernel_rfl⟩

theorem mapM_some {α β : Type} {f : α → Option β} {g : α → β} : ∀ l : List α, (∀ x ∈ l, f x = some (g x)) → l.mapM f = some (l.map g)
  | [], _ => rfl
  | x :: r, h => by
    rw [List.mapM_cons, h x List.mem_cons_self, mapM_some r fun y hy => h y (List.mem_cons_of_mem _ hy)]; rfl

def litL (xs : List Int) : List Lit := xs.map (Lit.int .i32)
def litK (xs : List Int) : Lit := .string (keyBytes (litL xs))
def valK (xs : List Int) : Value := .agg (xs.map (Value.int .i32)).toArray

theorem flat_ones (xs : List Int) (n : Nat) (h : xs.length = n) : ((List.range n).map fun i => [Lit.int .i32 (xs.getD i 0)]).flatten = litL xs := by
  have : ∀ l : List Nat, (l.map fun i => [Lit.int .i32 (xs.getD i 0)]).flatten = l.map fun i => Lit.int .i32 (xs.getD i 0) := by
    intro l; induction l with
    | nil => rfl
    | cons x r ih => rw [List.map_cons, List.flatten_cons, ih]; rfl
  rw [this]
  apply List.ext_getElem
  · simp [litL, h]
  · intro i h1 h2
    have hi : i < xs.length := by simpa [litL] using h2
    simp [litL, List.getD, hi]

/-- What 27 numbers read as, as a key. -/
theorem keyK (xs : List Int) (h : xs.length = 27) (hw : ∀ x ∈ xs, 0 ≤ x ∧ x ≤ 100000000) : keyOf Tryd.prog 134 (valK xs) = some (litK xs) := by
  obtain ⟨m, hm⟩ := typesS
  unfold keyOf
  simp only [underT]
  rw [if_pos (by simp [keyT, Value.formed, valK, underT, cellsT, h]), hm]
  unfold Program.keyLits
  simp only [underT, valK, Value.cells]
  rw [if_pos (by rw [cellsT]; simp [h])]
  rw [mapM_some (g := fun i => [Lit.int .i32 (xs.getD i 0)]) (List.range 27) ?_]
  · rw [Option.map_some, flat_ones xs 27 h]; rfl
  · intro i hi
    have hi' : i < xs.length := by rw [h]; exact List.mem_range.1 hi
    rw [cellsE, Nat.mul_one]
    have e : ((xs.map (Value.int .i32)).drop i).take 1 = [Value.int .i32 (xs.getD i 0)] := by
      rw [List.drop_eq_getElem_cons (by simpa using hi')]
      simp [List.getD, hi']
    rw [e]
    unfold Program.keyLits
    simp only [underE]
    have hb := hw (xs.getD i 0) (by rw [List.getD, List.getElem?_eq_getElem hi']; exact List.getElem_mem hi')
    have hwf : (Lit.int .i32 (xs.getD i 0)).wf = true := by
      have h1 : IntKind.i32.min = -2147483648 := by decide
      have h2 : IntKind.i32.max = 2147483647 := by decide
      simp only [Lit.wf, h1, h2, Bool.and_eq_true, decide_eq_true_eq]
      omega
    rw [if_pos ⟨trivial, hwf⟩]

theorem map_inj {xs ys : List Int} (h : valK xs = valK ys) : xs = ys := by
  unfold valK at h
  simp only [Value.agg.injEq] at h
  have h := congrArg Array.toList h
  simp only [List.toList_toArray] at h
  have : ∀ a b : List Int, a.map (Value.int .i32) = b.map (Value.int .i32) → a = b := by
    intro a
    induction a with
    | nil => intro b h; cases b with | nil => rfl | cons => cases h
    | cons x r ih =>
      intro b h
      cases b with
      | nil => cases h
      | cons y q =>
        rw [List.map_cons, List.map_cons, List.cons.injEq] at h
        obtain ⟨h1, h2⟩ := h
        simp only [Value.int.injEq, true_and] at h1
        rw [h1, ih q h2]
  exact this _ _ h
theorem litK_inj {xs ys : List Int} (hx : xs.length = 27) (hy : ys.length = 27) (wx : ∀ x ∈ xs, 0 ≤ x ∧ x ≤ 100000000) (wy : ∀ x ∈ ys, 0 ≤ x ∧ x ≤ 100000000) (h : litK xs = litK ys) : xs = ys :=
  map_inj (law.inj (keyK xs hx wx) (h ▸ keyK ys hy wy))

/-- The key of a class and of the classes behind. -/
def sgL (p : Nat × List Nat) : List Int := (p.1 : Int) :: (p.2.map (fun x : Nat => (x : Int)) ++ List.replicate (26 - p.2.length) 0)
theorem sgL_length {p : Nat × List Nat} (h : p.2.length ≤ 26) : (sgL p).length = 27 := by simp [sgL]; omega
theorem sgL_small {p : Nat × List Nat} (h1 : p.1 ≤ 100000000) (h2 : ∀ x ∈ p.2, x ≤ 100000000) : ∀ x ∈ sgL p, 0 ≤ x ∧ x ≤ 100000000 := by
  intro x hx
  rcases List.mem_cons.1 hx with rfl | hx
  · omega
  · rcases List.mem_append.1 hx with hx | hx
    · obtain ⟨y, hy, rfl⟩ := List.mem_map.1 hx
      have := h2 y hy
      omega
    · have := List.eq_of_mem_replicate hx
      omega
theorem sgL_inj {p q : Nat × List Nat} (hl : p.2.length = q.2.length) (h : sgL p = sgL q) : p = q := by
  unfold sgL at h
  rw [List.cons.injEq] at h
  have h2 := (List.append_inj h.2 (by simp [hl])).1
  have : ∀ a b : List Nat, a.map (fun x : Nat => (x : Int)) = b.map (fun x : Nat => (x : Int)) → a = b := by
    intro a
    induction a with
    | nil => intro b h; cases b with | nil => rfl | cons => cases h
    | cons x r ih =>
      intro b h
      cases b with
      | nil => cases h
      | cons y q =>
        rw [List.map_cons, List.map_cons, List.cons.injEq] at h
        rw [ih q h.2, show x = y by omega]
  exact Prod.ext (by omega) (this _ _ h2)

/-- What the map holds behind so many states. -/
def MD (sg : Nat → Nat × List Nat) : Nat → DataW Unit
  | 0 => .map []
  | s + 1 => if idx sg (reps sg s) s < (reps sg s).length then MD sg s else (MD sg s).put (litK (sgL (sg s))) (.lit (.int .i32 ((reps sg s).length : Nat)))

structure SgOk (sg : Nat → Nat × List Nat) (n wd : Nat) : Prop where
  len : ∀ s, s < n → (sg s).2.length = wd
  fst : ∀ s, s < n → (sg s).1 ≤ 100000000
  snd : ∀ s, s < n → ∀ x ∈ (sg s).2, x ≤ 100000000
  wd : wd ≤ 26

theorem SgOk.key {sg : Nat → Nat × List Nat} {n wd : Nat} (h : SgOk sg n wd) {s : Nat} (hs : s < n) : keyOf Tryd.prog 134 (valK (sgL (sg s))) = some (litK (sgL (sg s))) :=
  keyK _ (sgL_length (by rw [h.len s hs]; exact h.wd)) (sgL_small (h.fst s hs) (h.snd s hs))
theorem SgOk.inj {sg : Nat → Nat × List Nat} {n wd : Nat} (h : SgOk sg n wd) {s t : Nat} (hs : s < n) (ht : t < n) (e : litK (sgL (sg s)) = litK (sgL (sg t))) : sg s = sg t :=
  sgL_inj (by rw [h.len s hs, h.len t ht]) (litK_inj (sgL_length (by rw [h.len s hs]; exact h.wd)) (sgL_length (by rw [h.len t ht]; exact h.wd)) (sgL_small (h.fst s hs) (h.snd s hs)) (sgL_small (h.fst t ht) (h.snd t ht)) e)

structure MDOk (sg : Nat → Nat × List Nat) (n s : Nat) : Prop where
  tidy : Tidy (MD sg s)
  size : Maps.size (MD sg s) = (reps sg s).length
  has : ∀ t, t < n → Maps.has (MD sg s) (litK (sgL (sg t))) = decide (idx sg (reps sg s) t < (reps sg s).length)
  at_ : ∀ t, t < n → idx sg (reps sg s) t < (reps sg s).length → ∀ z, (MD sg s).atKey (litK (sgL (sg t))) z = .lit (.int .i32 ((idx sg (reps sg s) t : Nat) : Int))

theorem md_ok {sg : Nat → Nat × List Nat} {n wd : Nat} (h : SgOk sg n wd) : ∀ s, s ≤ n → MDOk sg n s
  | 0, _ => ⟨⟨[], rfl, List.Pairwise.nil⟩, rfl, fun t _ => by simp [MD, Maps.has, reps, idx], fun t _ hi => by simp [reps] at hi⟩
  | s + 1, hs => by
    have ih := md_ok h s (by omega)
    have hkey : WideAt.IsKeyLit (litK (sgL (sg s))) := law.key (h.key (s := s) (by omega))
    by_cases hlt : idx sg (reps sg s) s < (reps sg s).length
    · have e1 : MD sg (s + 1) = MD sg s := by show (if _ then _ else _) = _; rw [if_pos hlt]
      have e2 : reps sg (s + 1) = reps sg s := by rw [reps_succ]; unfold meet; rw [if_pos hlt]
      refine ⟨by rw [e1]; exact ih.tidy, by rw [e1, e2]; exact ih.size, fun t ht => by rw [e1, e2]; exact ih.has t ht, fun t ht => by rw [e1, e2]; exact ih.at_ t ht⟩
    · have e1 : MD sg (s + 1) = (MD sg s).put (litK (sgL (sg s))) (.lit (.int .i32 ((reps sg s).length : Nat))) := by show (if _ then _ else _) = _; rw [if_neg hlt]
      have e2 : reps sg (s + 1) = reps sg s ++ [s] := by rw [reps_succ]; unfold meet; rw [if_neg hlt]
      have hns : idx sg (reps sg s) s = (reps sg s).length := by have := idx_le sg (reps sg s) s; omega
      have hno : Maps.has (MD sg s) (litK (sgL (sg s))) = false := by rw [ih.has s (by omega)]; simpa using hlt
      have hother : ∀ t, sg t ≠ sg s → ¬ idx sg (reps sg s) t < (reps sg s).length → ¬ idx sg (reps sg s ++ [s]) t < (reps sg s ++ [s]).length := fun t hne hn hc => by
        have hk := idx_key sg hc
        have hm : (reps sg s ++ [s])[idx sg (reps sg s ++ [s]) t] ∈ reps sg s ++ [s] := List.getElem_mem hc
        rcases List.mem_append.1 hm with hm | hm
        · exact hn (idx_lt_of_mem sg hm hk)
        · rw [List.mem_singleton.1 hm] at hk; exact hne hk.symm
      refine ⟨?_, ?_, ?_, ?_⟩
      · rw [e1]; exact ih.tidy.put hkey _
      · rw [e1, size_put ih.tidy, hno, e2, ih.size]; simp
      · intro t ht
        rw [e1, e2]
        by_cases he : sg t = sg s
        · rw [he, has_put_same ih.tidy.isMap hkey]
          rw [idx_congr sg he, idx_snoc, hns]; simp
        · rw [has_put_other (fun e => he (h.inj ht (by omega) e)), ih.has t ht]
          by_cases hi : idx sg (reps sg s) t < (reps sg s).length
          · rw [idx_append sg hi, decide_eq_true hi, decide_eq_true (by rw [List.length_append]; omega)]
          · rw [decide_eq_false hi, decide_eq_false (hother t he hi)]
      · intro t ht hi z
        rw [e1]
        rw [e2] at hi ⊢
        by_cases he : sg t = sg s
        · rw [he, atKey_put_same ih.tidy.isMap hkey, idx_congr sg he, idx_snoc, hns]
        · rw [atKey_put_other (fun e => he (h.inj ht (by omega) e))]
          have hi' : idx sg (reps sg s) t < (reps sg s).length := Classical.byContradiction fun hn => hother t he hn hi
          rw [idx_append sg hi']
          exact ih.at_ t ht hi' z

/-- clear(m), for a map of the call's own. -/
theorem run_clear {P : Program} {w : World} {t k e : TypeId} (ht : P.underlying t = some (.map k e)) {R : Value → Option (DataW Unit × List MemPlace)} {b n : Nat} {D : DataW Unit} (hown : w.ownsMap P k R b n D) :
    ∃ w', (∀ ty, (Builtin.clear_ #[t] ty #[.map (some b)]).run P w = .ok (.tuple #[]) w') ∧ w'.ownsMap P k R b 0 (.map []) ∧ w.grownBy w' (some b) := by
  obtain ⟨es, clock, hb, F, hs, rfl⟩ := hown
  refine ⟨ChangeMaps.setBlock w b (.map #[] clock), fun ty => ?_, ⟨#[], clock, ChangeMaps.heap_setBlock_same hb _, ⟨by simp, MapKept.stamped_empty _, by simp⟩, Nat.le_refl _, rfl⟩,
    ⟨rfl, rfl, rfl, by simp [ChangeMaps.setBlock], fun i _ hi => ChangeMaps.heap_setBlock_other hb _ (fun e => hi (by rw [e]))⟩⟩
  unfold Builtin.clear_
  simp [run_underlying ht, MapKept.run_getObj_map hb, MapKept.run_setObj_map _ hb, Result.andThen, ChangeMaps.setBlock]
end Go.Proofs.YtaimealknkhfbaaDoor.Sigs
