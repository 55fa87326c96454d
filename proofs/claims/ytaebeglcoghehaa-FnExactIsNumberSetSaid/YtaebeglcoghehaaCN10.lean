
/- What the library's function that reverses a list of numbers does to a list of one's own.
   Conditions: stated at each theorem. -/
import Derived.Test.YtaebeglcoghehaaCN4
import Derived.RegionTactic
import Derived.ChangeAlike
import Derived.BigRegion
import Derived.Test.YtaebeglcoghehaaCN6
import Derived.Test.YtaebeglcoghehaaCN2
import Derived.Deep.RegionWith
import Derived.WalkKit
namespace Go.Proofs.Ytaebeglcoghehaa.Reverse
set_option linter.unusedVariables false
set_option linter.unusedSimpArgs false
open Go.RowKit Mem Copy Heap

/-- The first and the last k numbers have been exchanged. -/
def swp (k n : Nat) (T : Nat → Int) (i : Nat) : Int := if i < k ∨ n - k ≤ i then T (n - 1 - i) else T i
theorem swp_zero (n : Nat) (T : Nat → Int) {i : Nat} (h : i < n) : swp 0 n T i = T i := by unfold swp; rw [if_neg (by omega)]
theorem swp_end {k n : Nat} (h : n ≤ 2 * k + 1) (T : Nat → Int) {i : Nat} (hi : i < n) : swp k n T i = T (n - 1 - i) := by
  unfold swp
  split
  · rfl
  · rw [show n - 1 - i = i by omega]
theorem swp_next {k n : Nat} (h : 2 * k + 1 < n) (T : Nat → Int) :
    ((tv n (swp k n T)).set k (.int .i64 (swp k n T (n - 1 - k)))).set (n - 1 - k) (.int .i64 (swp k n T k)) = tv n (swp (k + 1) n T) := by
  rw [tv_set, tv_set]
  refine tv_congr fun i hi => ?_
  unfold swp
  by_cases h1 : i = n - 1 - k
  · subst h1
    rw [if_pos rfl, if_neg (by omega), if_pos (by omega)]
    congr 1; omega
  · rw [if_neg h1]
    by_cases h2 : i = k
    · subst h2
      rw [if_pos rfl, if_neg (by omega), if_pos (by omega)]
    · rw [if_neg h2]
      by_cases h3 : i < k ∨ n - k ≤ i
      · rw [if_pos h3, if_pos (by omega)]
      · rw [if_neg h3, if_neg (by omega)]
theorem swp_next' {k n : Nat} (h : 2 * k + 1 < n) (T : Nat → Int) :
    ((tv n (swp k n T)).set (n - 1 - k) (.int .i64 (swp k n T k))).set k (.int .i64 (swp k n T (n - 1 - k))) = tv n (swp (k + 1) n T) := by
  rw [List.set_comm _ _ (by omega)]; exact swp_next h T

set_option maxRecDepth 100000 in
set_option maxHeartbeats 4000000 in
theorem reverse (w : World) (B : Nat) (v : Value) (n : Nat) (T : Nat → Int) (h : Lst w B 2 v (tv n T)) (hB : B ≤ w.heap.size) (hn : n ≤ 100000000) :
    Calls Try.prog 133 #[v] w fun e w' => e = .returned (.tuple #[]) ∧ Lst w' B 2 v (tv n fun i => T (n - 1 - i)) ∧ Below B w w' := by
  by_cases h0 : 0 < n
  · obtain ⟨g, cap, rfl, hg, -, hf⟩ := h.view (by rw [tv_length]; exact h0)
    rw [tv_length] at h ⊢
    have HL := Lib.hid (show Lst w B 2 (.slice (some ⟨g, 0, none⟩) n cap) (tv n (swp 0 n T)) by rw [tv_congr (S := T) (fun i hi => swp_zero n T hi)]; exact h)
    have HG := Lib.hid (Below.refl B w)
    clear hf h
    have hw0 : IntKind.i64.wrap ((n : Int) - 1) = (n : Int) - 1 := by rw [IntKind.wrap_i64]; omega
    go_enter Try.func133, Try.ntmps133
    go_wp2_with fail
    go_loopw [2, 3] (fun a b wr => ∃ k : Nat, 2 * k ≤ n + 1 ∧ a = .int .i64 k ∧ b = .int .i64 ((n : Int) - 1 - k) ∧ Lst wr B 2 (.slice (some ⟨g, 0, none⟩) n cap) (tv n (swp k n T)) ∧ Below B w wr) (fun a b _ => n - (intOf a).toNat)
    case atStart => exact ⟨0, by omega, rfl, by simp, HL.out, HG.out⟩
    case round =>
      obtain ⟨k, hk, rfl, rfl, hl, hgr⟩ := hrel
      have HL1 := Lib.hid hl
      have HG1 := Lib.hid hgr
      by_cases hlt : 2 * k + 1 < n
      · have c1 := hl.cellOf (i := k) (by rw [tv_length]; omega)
        have c2 := hl.cellOf (i := n - 1 - k) (by rw [tv_length]; omega)
        rw [tv_get] at c1 c2
        have f1 := hl.free k
        have f2 := hl.free (n - 1 - k)
        have lg := hl.lt (k := g) rfl
        obtain ⟨j, hj⟩ : ∃ j, j = n - 1 - k := ⟨_, rfl⟩
        have HJ := Lib.hid hj
        have ej : ((n : Int) - 1 - (k : Int)) = (j : Int) := by omega
        rw [← hj] at c2 f2
        rw [ej]
        have hkj : k ≠ j := by omega
        have hjk : j ≠ k := by omega
        have hjn : j < n := by omega
        have hkn : k < n := by omega
        have hkj' : k < j := by omega
        have hwk : IntKind.i64.wrap ((k : Int) + 1) = (k : Int) + 1 := by rw [IntKind.wrap_i64]; omega
        have hwj : IntKind.i64.wrap ((j : Int) - 1) = (j : Int) - 1 := by rw [IntKind.wrap_i64]; omega
        have HLT := Lib.hid hlt
        clear hl hgr hj ej HL HG hlt hw0
        go_wp2_with fail
        go_region
        all_goals
          go_wp2_with fail
          go_roundw
          case rel =>
            have hl2 := HL1.out
            refine ⟨k + 1, by have := HLT.out; omega, by go_num, by have := HJ.out; have := HLT.out; congr 1; omega, ?_, ?_⟩
            · first
                | exact (show Lst _ _ _ _ _ from by
                    have h1 := (hl2.set (i := k) (by rw [tv_length]; exact hkn) (.int .i64 (swp k n T j))).set (i := j) (by rw [List.length_set, tv_length]; exact hjn) (.int .i64 (swp k n T k))
                    rw [HJ.out, swp_next HLT.out, ← HJ.out] at h1
                    exact h1.drew)
                | exact (show Lst _ _ _ _ _ from by
                    have h1 := (hl2.set (i := j) (by rw [tv_length]; exact hjn) (.int .i64 (swp k n T k))).set (i := k) (by rw [List.length_set, tv_length]; exact hkn) (.int .i64 (swp k n T j))
                    rw [HJ.out, swp_next' HLT.out, ← HJ.out] at h1
                    exact h1.drew)
            · exact ((HG1.out.setCell (hl2.ge (k := g) rfl) _).setCell (hl2.ge (k := g) rfl) _).drew
          case measure => simp [intOf]; omega
      · have d1 : decide ((k : Int) < (n : Int) - 1 - (k : Int)) = false := by simp; omega
        have HEQ := Lib.hid (show tv n (swp k n T) = tv n fun i => T (n - 1 - i) from tv_congr fun i hi => swp_end (by omega) T hi)
        clear hl hgr HL HG hlt hw0
        go_wp2_with fail
        go_end0
        exact ⟨rfl, by rw [← HEQ.out]; exact HL1.out, HG1.out⟩
  · obtain rfl : n = 0 := by omega
    have HL := Lib.hid h
    obtain ⟨a, m, cap, rfl, hm⟩ := h.shape'
    have hm0 : m = 0 := hm
    subst hm0
    have HE := Lib.hid (show (tv 0 fun i => T (0 - 1 - i)) = tv 0 T from rfl)
    clear h hm h0
    go_enter Try.func133, Try.ntmps133
    go_wp2_with fail
    refine wp_loop_rounds 1 ?_
    rw [rounds_succ]
    go_wp2_with fail
    go_end0
    exact ⟨rfl, by rw [HE.out]; exact HL.out, Below.refl _ _⟩
end Go.Proofs.Ytaebeglcoghehaa.Reverse
/- Lists of places (two numbers each) that a function makes and appends to; the table of their numbers; what the program's function that meets a place does.
   Conditions: stated at each theorem. -/
namespace Go.Proofs.Ytaebeglcoghehaa.Places
set_option linter.unusedVariables false
set_option linter.unusedSimpArgs false
open Go.RowKit Mem Copy Rel Heap Bld TidyMath TidyRight

def flat : List (Nat × Nat) → List Value
  | [] => []
  | p :: r => .int .i64 (p.1 : Nat) :: .int .i64 (p.2 : Nat) :: flat r
theorem flat_length : ∀ ps : List (Nat × Nat), (flat ps).length = ps.length * 2
  | [] => rfl
  | p :: r => by rw [flat, List.length_cons, List.length_cons, flat_length r, List.length_cons]; omega
theorem flat_append : ∀ (ps qs : List (Nat × Nat)), flat (ps ++ qs) = flat ps ++ flat qs
  | [], qs => rfl
  | p :: r, qs => by rw [List.cons_append, flat, flat, flat_append r, List.cons_append, List.cons_append]
theorem flat_get : ∀ (ps : List (Nat × Nat)) (i : Nat) (h : i < ps.length), (flat ps)[i * 2]? = some (.int .i64 (ps[i].1 : Nat)) ∧ (flat ps)[i * 2 + 1]? = some (.int .i64 (ps[i].2 : Nat))
  | p :: r, 0, h => ⟨rfl, rfl⟩
  | p :: r, i + 1, h => by
    have := flat_get r i (by simpa using h)
    rw [flat, show (i + 1) * 2 = i * 2 + 1 + 1 by omega, List.getElem?_cons_succ, List.getElem?_cons_succ, List.getElem?_cons_succ, List.getElem?_cons_succ]
    exact this

/-- The slice value v is a list of the function's own of the places ps. -/
def Plc (w : World) (B : Nat) (v : Value) (ps : List (Nat × Nat)) : Prop := w.ownsRow B 114 2 v ps.length (flat ps)
theorem Plc.lt {w : World} {B : Nat} {v : Value} {ps : List (Nat × Nat)} (h : Plc w B v ps) {k : Nat} (hk : v.ownBlock = some k) : k < w.heap.size := (World.ownsRow.lt h k hk).2
theorem Plc.ge {w : World} {B : Nat} {v : Value} {ps : List (Nat × Nat)} (h : Plc w B v ps) {k : Nat} (hk : v.ownBlock = some k) : B ≤ k := (World.ownsRow.lt h k hk).1
theorem Plc.of_block {w w' : World} {B : Nat} {v : Value} {ps : List (Nat × Nat)} (h : Plc w B v ps) (hb : ∀ k, v.ownBlock = some k → w'.heap[k]? = w.heap[k]?) : Plc w' B v ps := by
  refine ⟨h.1, ?_⟩
  rcases h.2 with h' | ⟨g, cap, cur, hv, hbg, hh, r⟩
  · exact .inl h'
  · refine .inr ⟨g, cap, cur, hv, hbg, ?_, r⟩
    rw [hb g (by rw [hv]; rfl)]; exact hh
theorem Plc.grown {w w' : World} {B : Nat} {v : Value} {ps : List (Nat × Nat)} {row : Option Nat} (h : Plc w B v ps) (hg : w.grownBy w' row) (hr : ∀ k, row = some k → v.ownBlock ≠ some k) : Plc w' B v ps :=
  h.of_block fun k hk => hg.block k (h.lt hk) (fun e => hr k e.symm hk)
theorem Plc.below {w w' : World} {B : Nat} {v : Value} {ps : List (Nat × Nat)} (h : Plc w B v ps) (hb : Below w.heap.size w w') : Plc w' B v ps :=
  h.of_block fun k hk => hb.block k (h.lt hk)
theorem Plc.alloc {w : World} {B : Nat} {v : Value} {ps : List (Nat × Nat)} (h : Plc w B v ps) (o : Obj) : Plc (w.alloc o) B v ps := h.below ((Below.refl _ _).alloc (Nat.le_refl _) _)
theorem Plc.drewN {w : World} {B : Nat} {v : Value} {ps : List (Nat × Nat)} (h : Plc w B v ps) (m : Nat) : Plc (w.drewN m) B v ps := h
theorem Plc.setOther {w : World} {B : Nat} {v : Value} {ps : List (Nat × Nat)} (h : Plc w B v ps) {a : Addr} (ha : v.ownBlock ≠ some a.block) (u : Value) : Plc (w.setCell a u) B v ps :=
  h.of_block fun k hk => Below.heap_setCell _ _ _ _ (fun e => ha (by rw [← e]; exact hk))
theorem Plc.block {w : World} {B : Nat} {v : Value} {ps : List (Nat × Nat)} (h : Plc w B v ps) (hn : 0 < ps.length) : ∃ g cap cur, v = .slice (some ⟨g, 0, none⟩) ps.length cap ∧ B ≤ g ∧ w.heap[g]? = some (.cells cur 114 (0, 0)) ∧
    ∀ i (hi : i < ps.length), cur[i * 2]? = some (.int .i64 (ps[i].1 : Nat)) ∧ cur[i * 2 + 1]? = some (.int .i64 (ps[i].2 : Nat)) := by
  rcases h.2 with ⟨rfl, h0⟩ | ⟨g, cap, cur, rfl, hbg, hh, hnc, hc, hs, ht⟩
  · omega
  · refine ⟨g, cap, cur, rfl, hbg, hh, fun i hi => ?_⟩
    have h1 := flat_get ps i hi
    rw [← ht] at h1
    rw [List.getElem?_take, List.getElem?_take] at h1
    rw [if_pos (by omega), if_pos (by omega)] at h1
    simpa using h1
theorem Plc.shape' {w : World} {B : Nat} {v : Value} {ps : List (Nat × Nat)} (h : Plc w B v ps) (hn : 0 < ps.length) : ∃ g n cap, v = .slice (some ⟨g, 0, none⟩) n cap ∧ Hid (n = ps.length) ∧ Hid (g < w.heap.size) := by
  obtain ⟨g, cap, cur, hv, hB, hh, -⟩ := h.block hn
  exact ⟨g, _, cap, hv, rfl, lt_of_block hh⟩
/-- Blocks of other kinds are other blocks. -/
theorem Plc.not_block {w : World} {B : Nat} {v : Value} {ps : List (Nat × Nat)} {k : Nat} {c : Array Value} {t : TypeId} {r : Nat × Nat} (h : Plc w B v ps) (hb : w.heap[k]? = some (.cells c t r)) (ht : t ≠ 114) : v.ownBlock ≠ some k := by
  intro e
  rcases h.2 with ⟨rfl, -⟩ | ⟨g, cap, cur, rfl, hbg, hh, -⟩
  · cases e
  · cases e
    rw [hh] at hb
    cases hb
    exact ht rfl
theorem Plc.not_lst {w : World} {B B' : Nat} {t : TypeId} {v v' : Value} {ps : List (Nat × Nat)} {xs : List Value} (h : Plc w B v ps) (h' : Lst w B' t v' xs) (ht : t ≠ 114) (k : Nat) (e : v'.ownBlock = some k) : v.ownBlock ≠ some k := by
  rcases h'.2 with ⟨rfl, -⟩ | ⟨g, cap, cur, rfl, hbg, hh, -⟩
  · cases e
  · cases e
    exact h.not_block hh ht

theorem infoP : (Try.prog.info? 114).map (fun i => (i.zero, i.size, i.bytes)) = some (some (.agg #[.int .i64 0, .int .i64 0]), 2, 16) := by kernel_rfl

structure PushedP (w w' : World) (B : Nat) (v v' : Value) (ps : List (Nat × Nat)) (p : Nat × Nat) : Prop where
  plc : Plc w' B v' (ps ++ [p])
  grow : w.grownBy w' v.ownBlock
  at_ : v'.ownBlock = v.ownBlock ∨ ∃ g, v'.ownBlock = some g ∧ w.heap.size ≤ g

theorem wpList_pushP {w : World} {ops : Array Oper} {rest : List Oper} {o : Oper} {a : Act} {Q : Exit → Act → World → Prop} (hgd : o.guard = none) (s x : Operand)
    (ho : o.op = .call { callee := .builtin .append, args := #[s, x], argTypes := #[115, 115] })
    (B : Nat) (v : Value) (ps : List (Nat × Nat)) (p : Nat × Nat) (hown : Plc w B v ps) (hB : B ≤ w.heap.size) (hlen : ps.length ≤ 100000000) (hs : a.eval s = v) (N : Nat) (hx : a.eval x = .slice (some ⟨N, 0, none⟩) 1 1) (hN : w.heap.size = N)
    (h : ∀ v' w', PushedP w w' B v v' ps p → wpList Try.prog ops Q rest (a.put o.dst v') w') : wpList Try.prog ops Q (o :: rest) a (w.alloc (.cells #[.int .i64 (p.1 : Nat), .int .i64 (p.2 : Nat)] 114)) := by
  obtain ⟨i, hi, hz, hsize, hbytes⟩ := info_parts infoP
  subst hN
  refine wpList_append_own_at (P := Try.prog) _ hgd s x 115 ho B 114 i (.agg #[.int .i64 0, .int .i64 0]) 2 16 Try.underlying115 hi hz hsize hbytes rfl (by decide) v ps.length (flat ps) hs (Plc.alloc hown _) ⟨w.heap.size, 0, none⟩ 1 1 [.int .i64 (p.1 : Nat), .int .i64 (p.2 : Nat)] hx rfl ?_ ?_ (by unfold maxLen; omega) ?_ (by simp; omega) ?_
  · intro j u' hj
    match j, hj with
    | 0, hj => simp at hj; subst hj; exact World.cell?_alloc_mark ..
    | 1, hj => simp at hj; subst hj; exact World.cell?_alloc_mark ..
  · intro u' hu
    simp at hu
    rcases hu with rfl | rfl <;> rfl
  · have : (ps.length + 1) * 16 ≤ 100000001 * 16 := Nat.mul_le_mul (by omega) (Nat.le_refl _)
    omega
  · intro v' w' hown' hg _ hat
    refine h v' w' ⟨?_, grown_trans_alloc hg, ?_⟩
    · unfold Plc
      rw [List.length_append, flat_append]
      exact hown'
    · rcases hat with e | e
      · exact .inl e
      · exact .inr ⟨_, e, by simp⟩

/-- The place with a number, and the table: one more than where it has been met, 0 if it has not. -/
def code (p : Nat × Nat) : Nat := p.1 * 8 + p.2
def numP (P : List (Nat × Nat)) (i : Nat) : Int := if idx id P (i / 8, i % 8) < P.length then ((idx id P (i / 8, i % 8) + 1 : Nat) : Int) else 0
theorem code_place {p : Nat × Nat} (h : p.2 < 8) : (code p / 8, code p % 8) = p := by
  unfold code
  exact Prod.ext (by show (p.1 * 8 + p.2) / 8 = p.1; omega) (by show (p.1 * 8 + p.2) % 8 = p.2; omega)
theorem place_code (i : Nat) : code (i / 8, i % 8) = i := by
  unfold code
  show i / 8 * 8 + i % 8 = i; omega
theorem numP_at {P : List (Nat × Nat)} {p : Nat × Nat} (h : p.2 < 8) : numP P (code p) = if idx id P p < P.length then ((idx id P p + 1 : Nat) : Int) else 0 := by
  unfold numP; rw [code_place h]
theorem numP_push {P : List (Nat × Nat)} {p : Nat × Nat} (h : p.2 < 8) (hn : ¬ idx id P p < P.length) (i : Nat) : numP (P ++ [p]) i = if i = code p then ((P.length + 1 : Nat) : Int) else numP P i := by
  by_cases e : i = code p
  · rw [if_pos e, e, numP_at h, idx_snoc]
    have := idx_le id P p
    rw [if_pos (by rw [List.length_append]; simp; omega), show idx id P p = P.length by omega]
  · rw [if_neg e]
    have hne : (i / 8, i % 8) ≠ p := fun h' => e (by rw [← place_code i, h'])
    unfold numP
    by_cases h1 : idx id P (i / 8, i % 8) < P.length
    · rw [if_pos h1, idx_append id h1, if_pos (by rw [List.length_append]; omega)]
    · rw [if_neg h1, if_neg ?_]
      intro h2
      have h3 := idx_key id h2
      have h4 : (P ++ [p])[idx id (P ++ [p]) (i / 8, i % 8)] ∈ P ++ [p] := List.getElem_mem h2
      rw [show (P ++ [p])[idx id (P ++ [p]) (i / 8, i % 8)] = (i / 8, i % 8) from h3] at h4
      rcases List.mem_append.1 h4 with h5 | h5
      · exact h1 (idx_lt_of_mem id h5 rfl)
      · exact hne (by simpa using h5)

/-- What has been met, in memory: a variable with the table, one with the list. -/
structure Met (w : World) (B b4 b5 g n : Nat) (v : Value) (P : List (Nat × Nat)) : Prop where
  box4 : w.heap[b4]? = some (.cells #[.slice (some ⟨g, 0, none⟩) n n] 44 (0, 0))
  box5 : w.heap[b5]? = some (.cells #[v] 115 (0, 0))
  tab : Lst w B 2 (.slice (some ⟨g, 0, none⟩) n n) (tv n (numP P))
  lst : Plc w B v ((0, 0) :: P)
  b5B : B ≤ b5
  b45 : b4 ≠ b5

/-- What else there was stays. -/
structure MetFrame (w w' : World) (b5 g : Nat) (v v' : Value) : Prop where
  os : w'.os = w.os
  tape : w'.tape = w.tape
  output : w'.output = w.output
  size : w.heap.size ≤ w'.heap.size
  block : ∀ k, k < w.heap.size → k ≠ b5 → k ≠ g → v.ownBlock ≠ some k → w'.heap[k]? = w.heap[k]?
  at_ : v'.ownBlock = v.ownBlock ∨ ∃ q, v'.ownBlock = some q ∧ w.heap.size ≤ q

theorem or8 (a b : Nat) (ha : a < 100000000) (hb : b < 8) : bits BinOp.or IntKind.i64 ((a : Int) * 8) (b : Int) = ((a * 8 + b : Nat) : Int) := by
  have h1 : ((a : Int) * 8) = ((a * 8 : Nat) : Int) := by omega
  rw [h1]
  show IntKind.i64.wrap ((BitVec.ofInt 64 ((a * 8 : Nat) : Int) ||| BitVec.ofInt 64 ((b : Nat) : Int)).toNat : Int) = _
  have h2 : (BitVec.ofInt 64 ((a * 8 : Nat) : Int) ||| BitVec.ofInt 64 ((b : Nat) : Int)).toNat = a * 8 + b := by
    rw [BitVec.ofInt_natCast, BitVec.ofInt_natCast, BitVec.toNat_or, BitVec.toNat_ofNat, BitVec.toNat_ofNat, Nat.mod_eq_of_lt (by omega), Nat.mod_eq_of_lt (by omega)]
    have := Nat.shiftLeft_add_eq_or_of_lt (i := 3) (b := b) (by omega) a
    rw [Nat.shiftLeft_eq, show (2 : Nat) ^ 3 = 8 from rfl] at this
    exact this.symm
  rw [h2, IntKind.wrap_i64]
  omega

/-- What the walk needs of a place that is new, and what it is in the end. -/
structure MetStep (w w5 : World) (B b4 b5 g n y : Nat) (v v' : Value) (P : List (Nat × Nat)) (p : Nat × Nat) : Prop where
  box : w5.heap[b5]? = some (.cells #[v] 115 (0, 0))
  cell : w5.cell? ⟨g, y, none⟩ = some (.int .i64 ((P.length : Int) + 1))
  met : Met (w5.setCell ⟨b5, 0, none⟩ v') B b4 b5 g n v' (P ++ [p])
  frame : MetFrame w (w5.setCell ⟨b5, 0, none⟩ v') b5 g v v'

theorem Met.new {w w5 : World} {B b4 b5 g n : Nat} {v v' : Value} {P : List (Nat × Nat)} {p : Nat × Nat} (h : Met w B b4 b5 g n v P) (hp8 : p.2 < 8) (hc : code p < n) (hidx : ¬ idx id P p < P.length) (o : Obj)
    (hp5 : PushedP ((w.setCell ⟨g, code p, none⟩ (.int .i64 ((P.length : Int) + 1))).alloc o) w5 B v v' ((0, 0) :: P) p) : MetStep w w5 B b4 b5 g n (code p) v v' P p := by
  have h5g : b5 ≠ g := fun e => block_apart h.tab h.box5 (by decide) (by rw [e]; rfl)
  have h4g : b4 ≠ g := fun e => block_apart h.tab h.box4 (by decide) (by rw [e]; rfl)
  have hv5 : v.ownBlock ≠ some b5 := h.lst.not_block h.box5 (by decide)
  have hv4 : v.ownBlock ≠ some b4 := h.lst.not_block h.box4 (by decide)
  have hvg : v.ownBlock ≠ some g := h.lst.not_lst h.tab (by decide) g rfl
  have hsz : ((w.setCell ⟨g, code p, none⟩ (.int .i64 ((P.length : Int) + 1))).alloc o).heap.size = w.heap.size + 1 := by rw [size_alloc']; simp [World.setCell]
  have hk : ∀ k, k < w.heap.size → k ≠ g → v.ownBlock ≠ some k → w5.heap[k]? = w.heap[k]? := fun k h1 h2 h3 => by
    rw [hp5.grow.block k (by omega) (fun e => h3 e.symm), Below.heap_alloc _ _ _ (by simpa [World.setCell] using h1), Below.heap_setCell _ _ _ _ h2]
  have l4 := lt_of_block h.box4
  have l5 := lt_of_block h.box5
  have t1 := h.tab.set (i := code p) (by rw [tv_length]; exact hc) (.int .i64 ((P.length : Int) + 1))
  rw [tv_set] at t1
  have e1 : tv n (fun i => if i = code p then ((P.length : Int) + 1) else numP P i) = tv n (numP (P ++ [p])) := tv_congr fun i _ => by
    rw [numP_push hp8 hidx]; split <;> simp
  rw [e1] at t1
  have t5 := (t1.alloc o).grown hp5.grow fun k hk' e => h.lst.not_lst h.tab (by decide) k e hk'
  have b5' := (hk b5 l5 h5g hv5).trans h.box5
  refine ⟨b5', ?_, ⟨?_, ?_, ?_, ?_, h.b5B, h.b45⟩, ⟨?_, ?_, ?_, ?_, ?_, ?_⟩⟩
  · have := t5.cellOf (i := code p) (by rw [tv_length]; exact hc)
    rw [tv_get, numP_push hp8 hidx, if_pos rfl] at this
    rw [this]; simp
  · rw [Below.heap_setCell _ _ _ _ h.b45, hk b4 l4 h4g hv4]; exact h.box4
  · exact cells_set b5' 0 v'
  · exact t5.setOther (fun e => h5g (by injection e with e; exact e.symm)) _
  · exact hp5.plc.setOther (hp5.plc.not_block b5' (by decide)) _
  · exact hp5.grow.os
  · exact hp5.grow.tape
  · exact hp5.grow.output
  · have := hp5.grow.size; simp only [World.setCell, Array.size_modify] at *; omega
  · intro k h1 h2 h3 h4
    rw [Below.heap_setCell _ _ _ _ h2, hk k h1 h3 h4]
  · rcases hp5.at_ with e | ⟨q, e, hq⟩
    · exact .inl e
    · exact .inr ⟨q, e, by omega⟩

theorem Met.drewN {w : World} {B b4 b5 g n : Nat} {v : Value} {P : List (Nat × Nat)} (h : Met w B b4 b5 g n v P) (m : Nat) : Met (w.drewN m) B b4 b5 g n v P :=
  ⟨h.box4, h.box5, h.tab, h.lst, h.b5B, h.b45⟩
theorem Met.below {w w' : World} {B b4 b5 g n : Nat} {v : Value} {P : List (Nat × Nat)} (h : Met w B b4 b5 g n v P) (hb : Below w.heap.size w w') : Met w' B b4 b5 g n v P :=
  ⟨by rw [hb.block _ (lt_of_block h.box4)]; exact h.box4, by rw [hb.block _ (lt_of_block h.box5)]; exact h.box5, h.tab.below hb, h.lst.below hb, h.b5B, h.b45⟩
/-- A store into a block of another kind. -/
theorem Met.setOther {w : World} {B b4 b5 g n : Nat} {v : Value} {P : List (Nat × Nat)} {a : Addr} {c : Array Value} {t : TypeId} {r : Nat × Nat} (h : Met w B b4 b5 g n v P) (hb : w.heap[a.block]? = some (.cells c t r)) (h1 : t ≠ 44) (h2 : t ≠ 115) (h3 : a.block ≠ g) (h4 : t ≠ 114) (u : Value) : Met (w.setCell a u) B b4 b5 g n v P :=
  ⟨by rw [Below.heap_setCell _ _ _ _ (fun e => h1 (by have := h.box4; rw [e, hb] at this; cases this; rfl))]; exact h.box4,
   by rw [Below.heap_setCell _ _ _ _ (fun e => h2 (by have := h.box5; rw [e, hb] at this; cases this; rfl))]; exact h.box5,
   h.tab.setOther (fun e => h3 (by injection e with e; exact e.symm)) u, h.lst.setOther (h.lst.not_block hb h4) u, h.b5B, h.b45⟩
/-- An element more in a list of another kind. -/
theorem Met.grown {w w' : World} {B b4 b5 g n : Nat} {v : Value} {P : List (Nat × Nat)} (h : Met w B b4 b5 g n v P) {t : TypeId} {u : Value} {xs : List Value} (hl : Lst w B t u xs) (hg : w.grownBy w' u.ownBlock) (h1 : u.ownBlock ≠ some b4) (h2 : t ≠ 115) (h3 : u.ownBlock ≠ some g) (h4 : t ≠ 114) : Met w' B b4 b5 g n v P :=
  ⟨by rw [hg.block _ (lt_of_block h.box4) (fun e => h1 e.symm)]; exact h.box4,
   by rw [hg.block _ (lt_of_block h.box5) (fun e => block_apart hl h.box5 h2 e.symm)]; exact h.box5,
   h.tab.grown hg (fun k hk e => h3 (by cases e; exact hk)), h.lst.grown hg (fun k hk => h.lst.not_lst hl h4 k hk), h.b5B, h.b45⟩

theorem Met.alloc {w : World} {B b4 b5 g n : Nat} {v : Value} {P : List (Nat × Nat)} (h : Met w B b4 b5 g n v P) (o : Obj) : Met (w.alloc o) B b4 b5 g n v P :=
  ⟨by rw [Below.heap_alloc _ _ _ (lt_of_block h.box4)]; exact h.box4, by rw [Below.heap_alloc _ _ _ (lt_of_block h.box5)]; exact h.box5, h.tab.alloc o, h.lst.alloc o, h.b5B, h.b45⟩

set_option maxHeartbeats 1000000 in
theorem meet (p : Nat × Nat) (w : World) (B b4 b5 g n : Nat) (v : Value) (P : List (Nat × Nat)) (h : Met w B b4 b5 g n v P) (hB : B ≤ w.heap.size) (hp : p.1 < 100000000) (hp8 : p.2 < 8) (hc : code p < n) (hn : n ≤ 100000000) (hP : P.length ≤ 10000000) :
    Calls Try.prog 97 #[.agg #[.int .i64 (p.1 : Nat), .int .i64 (p.2 : Nat)], .pointer (some ⟨b4, 0, none⟩), .pointer (some ⟨b5, 0, none⟩)] w fun e w' =>
      ∃ v', e = .returned (.int .i64 ((idx id P p + 1 : Nat) : Int)) ∧ Met w' B b4 b5 g n v' (TidyMath.meet id P p) ∧ MetFrame w w' b5 g v v' := by
  have HM := Lib.hid h
  have c4 := cells_get h.box4 0
  have c5 := cells_get h.box5 0
  simp at c4 c5
  have l4 := lt_of_block h.box4
  have l5 := lt_of_block h.box5
  have f5 := cells_free h.box5 0
  have cN := h.tab.cellOf (i := code p) (by rw [tv_length]; exact hc)
  rw [tv_get, numP_at hp8] at cN
  have lN := World.block_lt_of_cell? _ _ cN
  have fN := h.tab.free (code p)
  obtain ⟨g5, n5, cp5, rfl, HN5, HG5⟩ := h.lst.shape' (Nat.succ_pos _)
  obtain ⟨p1, p2⟩ := p
  have hor := or8 p1 p2 hp hp8
  obtain ⟨y, hy⟩ : ∃ y, y = code (p1, p2) := ⟨_, rfl⟩
  have hor' : bits BinOp.or IntKind.i64 ((p1 : Int) * 8) (p2 : Int) = ((y : Nat) : Int) := by rw [hor, hy]; rfl
  obtain ⟨d, hd⟩ : ∃ d, d = idx id P (p1, p2) := ⟨_, rfl⟩
  have HD := Lib.hid hd
  have HY := Lib.hid hy
  have HP8 := Lib.hid hp8
  rw [← hy] at cN fN hc
  rw [← hd] at cN
  rw [← hd]
  have hdP := idx_le id P (p1, p2)
  rw [← hd] at hdP
  have hn5 : n5 = P.length + 1 := HN5.out
  clear h hor hy hd
  by_cases hlt : d < P.length
  · rw [if_pos hlt] at cN
    have HMM := Lib.hid (show TidyMath.meet id P (p1, p2) = P by unfold TidyMath.meet; rw [if_pos (by rw [← HD.out]; exact hlt)])
    have hz : (((d + 1 : Nat) : Int) == 0) = false := by simp; omega
    obtain ⟨x, hx⟩ : ∃ x, x = d + 1 := ⟨_, rfl⟩
    rw [← hx] at cN hz
    rw [← hx]
    clear hx
    go_enter Try.func97, Try.ntmps97
    go_wp2_with fail
    go_ret
    exact ⟨rfl, _, by rw [HMM.out, ← hn5]; exact HM.out.alloc _, ⟨rfl, rfl, rfl, by simp, fun k hk _ _ _ => Below.heap_alloc _ _ _ hk, .inl rfl⟩⟩
  · rw [if_neg hlt] at cN
    have HDE := Lib.hid (show d = P.length by omega)
    have HMM := Lib.hid (show TidyMath.meet id P (p1, p2) = P ++ [(p1, p2)] by unfold TidyMath.meet; rw [if_neg (by rw [← HD.out]; exact hlt)])
    have h5g : b5 ≠ g := fun e => block_apart HM.out.tab HM.out.box5 (by decide) (by rw [e]; rfl)
    have h5g' : g ≠ b5 := Ne.symm h5g
    go_enter Try.func97, Try.ntmps97
    have HPL := Lib.hid (show Plc (w.setCell ⟨g, y, none⟩ (.int .i64 ((P.length : Int) + 1))) B (.slice (some ⟨g5, 0, none⟩) (P.length + 1) cp5) ((0, 0) :: P) by
      rw [← hn5]; exact HM.out.lst.setOther (a := ⟨g, y, none⟩) (HM.out.lst.not_lst HM.out.tab (by decide) g rfl) _)
    have HBB := Lib.hid (show B ≤ (w.setCell ⟨g, y, none⟩ (.int .i64 ((P.length : Int) + 1))).heap.size by simpa [World.setCell] using hB)
    have HLL := Lib.hid (show ((0, 0) :: P).length ≤ 100000000 by rw [List.length_cons]; omega)
    have HNW := Lib.hid (fun o w5 v' hp5 => HM.out.new (w5 := w5) (v' := v') HP8.out (by rw [← HY.out]; exact hc) (by rw [← HD.out]; exact hlt) o hp5)
    rw [← HY.out, hn5] at HNW
    go_wp2_with (at_builtin; refine wpList_pushP rfl _ _ rfl B (.slice (some ⟨g5, 0, none⟩) (P.length + 1) cp5) ((0, 0) :: P) (p1, p2) (HPL.out.alloc _) (by rw [size_alloc']; exact Nat.le_succ_of_le HBB.out) HLL.out rfl _ rfl (by simp [World.setCell]) ?_; intro v5 w5 hp5; have HS := Lib.hid (HNW.out _ _ _ hp5); obtain ⟨g6, n6, cp6, rfl, HN6, HG6⟩ := hp5.plc.shape' (by simp); have q5 := cells_get HS.out.box 0; have z5 := cells_free HS.out.box 0; have l5' := lt_of_block HS.out.box; have c6 := HS.out.cell; have l6 := World.block_lt_of_cell? _ _ c6; simp at q5; clear hp5)
    go_ret
    exact ⟨by rw [HDE.out]; rfl, _, by rw [HMM.out]; exact HS.out.met, HS.out.frame⟩
end Go.Proofs.Ytaebeglcoghehaa.Places
/- Plain facts on lists of bytes: which of them are made of the letters a and b alone.
   Conditions: none. -/
namespace Go.Proofs.Ytaebeglcoghehaa.WordMath
set_option linter.unusedVariables false
set_option linter.unusedSimpArgs false

def letter (c : UInt8) : Bool := c == 97 || c == 98
def good (l : List UInt8) : Bool := l.all letter
def wordB (s : ByteArray) : Bool := good s.data.toList && decide (s.size ≤ 40)

theorem good_snoc (l : List UInt8) (c : UInt8) : good (l ++ [c]) = (good l && letter c) := by
  simp [good]

theorem take_snoc (s : ByteArray) (k : Nat) (h : k < s.size) : s.data.toList.take (k + 1) = s.data.toList.take k ++ [s[k]] := by
  rw [List.take_succ_eq_append_getElem (by simpa using h)]; rfl

theorem letter_a (c : UInt8) (h : (c.toNat : Int) = 97) : letter c = true := by
  have : c = 97 := UInt8.toNat_inj.1 (by simpa using (by omega : c.toNat = 97))
  subst this; rfl

theorem letter_b (c : UInt8) (h : (c.toNat : Int) = 98) : letter c = true := by
  have : c = 98 := UInt8.toNat_inj.1 (by simpa using (by omega : c.toNat = 98))
  subst this; rfl

theorem letter_no (c : UInt8) (h : ¬ (c.toNat : Int) = 97) (h2 : ¬ (c.toNat : Int) = 98) : letter c = false := by
  unfold letter
  rw [Bool.or_eq_false_iff]
  constructor
  · rw [beq_eq_false_iff_ne]; intro e; subst e; exact h rfl
  · rw [beq_eq_false_iff_ne]; intro e; subst e; exact h2 rfl

theorem letter_or (c : UInt8) (h : letter c = true) : (c.toNat : Int) = 97 ∨ (c.toNat : Int) = 98 := by
  by_cases h1 : (c.toNat : Int) = 97
  · exact .inl h1
  · by_cases h2 : (c.toNat : Int) = 98
    · exact .inr h2
    · rw [letter_no c h1 h2] at h; cases h

theorem good_yes (s : ByteArray) (k : Nat) (h : k < s.size) (g : good (s.data.toList.take k) = true) (hc : letter s[k] = true) :
    good (s.data.toList.take (k + 1)) = true := by
  rw [take_snoc s k h, good_snoc, g, hc]; rfl

theorem good_no (s : ByteArray) (k : Nat) (h : k < s.size) (hc : letter s[k] = false) : good s.data.toList = false := by
  have e : s.data.toList = s.data.toList.take (k + 1) ++ s.data.toList.drop (k + 1) := (List.take_append_drop _ _).symm
  have g : good (s.data.toList.take (k + 1)) = false := by rw [take_snoc s k h, good_snoc, hc]; simp
  rw [e]; unfold good at *; rw [List.all_append, g]; rfl

theorem good_all (s : ByteArray) (g : good (s.data.toList.take s.size) = true) : good s.data.toList = true := by
  rwa [List.take_of_length_le (by simp)] at g

theorem word_no (s : ByteArray) (k : Nat) (h : k < s.size) (hc : letter s[k] = false) : wordB s = false := by
  unfold wordB; rw [good_no s k h hc]; rfl

theorem word_long (s : ByteArray) (h : 40 < s.size) : wordB s = false := by
  unfold wordB; rw [decide_eq_false (by omega)]; simp

theorem word_end (s : ByteArray) (g : good (s.data.toList.take s.size) = true) : wordB s = decide (s.size ≤ 40) := by
  unfold wordB; rw [good_all s g]; rfl

end Go.Proofs.Ytaebeglcoghehaa.WordMath
/- Plain facts on the columns of a tuple of words.
   Conditions: none. -/
namespace Go.Proofs.Ytaebeglcoghehaa.ColMath
set_option linter.unusedVariables false
set_option linter.unusedSimpArgs false
open WordMath Mem

/-- What a word has in a column: 0, 1, or 2 for the pad. -/
def dig (s : ByteArray) (i : Nat) : Int := if h : i < s.size then ((s[i]'h).toNat : Int) - 97 else 2
def pow3 : Nat → Int
  | 0 => 1
  | k + 1 => 3 * pow3 k
def colTo (ss : List ByteArray) (i : Nat) : Nat → Int
  | 0 => 0
  | k + 1 => colTo ss i k + dig (ss.getD k ByteArray.empty) i * pow3 k
def someTo (ss : List ByteArray) (i k : Nat) : Bool := (ss.take k).any fun s => decide (i < s.size)
def width : List ByteArray → Nat
  | [] => 0
  | s :: r => max s.size (width r)
/-- The columns of a tuple. -/
def cols (ss : List ByteArray) : List Int := (List.range (width ss)).map fun i => colTo ss i ss.length

theorem some_width (ss : List ByteArray) (i : Nat) : (ss.any fun s => decide (i < s.size)) = decide (i < width ss) := by
  induction ss with
  | nil => simp [width]
  | cons s r ih =>
    rw [List.any_cons, ih, show width (s :: r) = max s.size (width r) from rfl, Bool.eq_iff_iff]
    simp only [Bool.or_eq_true, decide_eq_true_eq]
    omega

theorem someTo_all (ss : List ByteArray) (i k : Nat) (h : ss.length ≤ k) : someTo ss i k = decide (i < width ss) := by
  unfold someTo
  rw [List.take_of_length_le h, some_width]

theorem someTo_zero (ss : List ByteArray) (i : Nat) : someTo ss i 0 = false := rfl

theorem someTo_succ (ss : List ByteArray) (i k : Nat) (h : k < ss.length) : someTo ss i (k + 1) = (someTo ss i k || decide (i < (ss.getD k ByteArray.empty).size)) := by
  unfold someTo
  rw [take_succ_getD ss ByteArray.empty k h, List.any_append]
  simp

theorem width_le (ss : List ByteArray) (h : ss.all wordB = true) : width ss ≤ 40 := by
  induction ss with
  | nil => exact Nat.zero_le _
  | cons s r ih =>
    rw [List.all_cons, Bool.and_eq_true] at h
    have h1 : s.size ≤ 40 := by
      have := h.1
      unfold wordB at this
      rw [Bool.and_eq_true] at this
      exact of_decide_eq_true this.2
    have := ih h.2
    rw [show width (s :: r) = max s.size (width r) from rfl]
    omega

theorem letter_at {s : ByteArray} (h : wordB s = true) {i : Nat} (hi : i < s.size) : letter (s[i]'hi) = true := by
  unfold wordB good at h
  rw [Bool.and_eq_true] at h
  have := List.all_eq_true.1 h.1 (s[i]'hi) (by
    have : s[i]'hi = s.data.toList[i]'(by simpa using hi) := rfl
    rw [this]; exact List.getElem_mem _)
  exact this

theorem word_byte {s : ByteArray} (h : wordB s = true) {i : Nat} (hi : i < s.size) : ((s[i]'hi).toNat : Int) = 97 ∨ ((s[i]'hi).toNat : Int) = 98 := letter_or _ (letter_at h hi)

theorem dig_in {s : ByteArray} {i : Nat} (hi : i < s.size) : dig s i = ((s[i]'hi).toNat : Int) - 97 := by unfold dig; rw [dif_pos hi]
theorem dig_out {s : ByteArray} {i : Nat} (hi : ¬ i < s.size) : dig s i = 2 := by unfold dig; rw [dif_neg hi]

theorem dig_bound {s : ByteArray} (h : wordB s = true) (i : Nat) : 0 ≤ dig s i ∧ dig s i ≤ 2 := by
  by_cases hi : i < s.size
  · rw [dig_in hi]; rcases word_byte h hi with e | e <;> omega
  · rw [dig_out hi]; omega

theorem word_getD {ss : List ByteArray} (h : ss.all wordB = true) {k : Nat} (hk : k < ss.length) : wordB (ss.getD k ByteArray.empty) = true := by
  have : ss.getD k ByteArray.empty = ss[k] := by simp [List.getD, hk]
  rw [this]
  exact List.all_eq_true.1 h _ (List.getElem_mem _)

theorem pow3_bound (k : Nat) (h : k ≤ 3) : 1 ≤ pow3 k ∧ pow3 k ≤ 27 ∧ (k ≤ 2 → pow3 k ≤ 9) := by
  have : k = 0 ∨ k = 1 ∨ k = 2 ∨ k = 3 := by omega
  rcases this with rfl | rfl | rfl | rfl <;> simp [pow3]

theorem colTo_bound {ss : List ByteArray} (h : ss.all wordB = true) (i k : Nat) (hk : k ≤ ss.length) (h3 : k ≤ 3) : 0 ≤ colTo ss i k ∧ colTo ss i k ≤ pow3 k - 1 := by
  induction k with
  | zero => simp [colTo, pow3]
  | succ k ih =>
    obtain ⟨a, b⟩ := ih (by omega) (by omega)
    obtain ⟨c, d⟩ := dig_bound (word_getD h (by omega : k < ss.length)) i
    obtain ⟨p, _, q⟩ := pow3_bound k (by omega)
    rw [show colTo ss i (k + 1) = colTo ss i k + dig (ss.getD k ByteArray.empty) i * pow3 k from rfl, show pow3 (k + 1) = 3 * pow3 k from rfl]
    have : dig (ss.getD k ByteArray.empty) i = 0 ∨ dig (ss.getD k ByteArray.empty) i = 1 ∨ dig (ss.getD k ByteArray.empty) i = 2 := by omega
    rcases this with e | e | e <;> rw [e] <;> omega

/-- The first m columns. -/
def colsTo (ss : List ByteArray) (m : Nat) : List Int := (List.range m).map fun i => colTo ss i ss.length
theorem colsTo_succ (ss : List ByteArray) (m : Nat) : colsTo ss (m + 1) = colsTo ss m ++ [colTo ss m ss.length] := by
  unfold colsTo; rw [List.range_succ]; simp
theorem colsTo_length (ss : List ByteArray) (m : Nat) : (colsTo ss m).length = m := by simp [colsTo]
theorem cols_eq (ss : List ByteArray) : cols ss = colsTo ss (width ss) := rfl
theorem cols_length (ss : List ByteArray) : (cols ss).length = width ss := by simp [cols]
end Go.Proofs.Ytaebeglcoghehaa.ColMath
/- The letters of a column: what they are, and that the program finds them; columns with the same letters are the same.
   Conditions: one to three tapes. -/
namespace Go.Proofs.Ytaebeglcoghehaa.Numbers
set_option linter.unusedVariables false
set_option linter.unusedSimpArgs false
open Go.RowKit Columns ColMath

/-- What a column has on a tape, as a letter. -/
def letT (n : Nat) (c : Int) (t : Nat) : Int := if t < n then letA (c / pow3 t % 3) else 35
def lettersV (n : Nat) (c : Int) : Value := .agg #[.int .u8 (letT n c 0), .int .u8 (letT n c 1), .int .u8 (letT n c 2)]

theorem lettersAny (n : Nat) (h1 : 1 ≤ n) (h3 : n ≤ 3) (c : Int) (h0 : 0 ≤ c) (hc : c ≤ 25) (w : World) :
    Calls Try.prog 121 #[.int .i64 n, .int .i64 c] w fun e w' => e = .returned (lettersV n c) ∧ Below w.heap.size w w' := by
  have e3 : c / 3 / 3 = c / 9 := by omega
  have : n = 1 ∨ n = 2 ∨ n = 3 := by omega
  rcases this with rfl | rfl | rfl
  · exact (letters1 c h0 hc w).mono fun e w' ⟨he, _, hg⟩ => ⟨by rw [he]; simp [lettersV, letT, pow3], hg⟩
  · exact (letters2 c h0 hc w).mono fun e w' ⟨he, _, hg⟩ => ⟨by rw [he]; simp [lettersV, letT, pow3], hg⟩
  · exact (letters3 c h0 hc w).mono fun e w' ⟨he, _, hg⟩ => ⟨by rw [he, e3]; simp [lettersV, letT, pow3], hg⟩

theorem letA_cases (d : Int) : letA d = 97 ∨ letA d = 98 ∨ letA d = 35 := by
  unfold letA; split
  · exact .inl rfl
  · split
    · exact .inr (.inl rfl)
    · exact .inr (.inr rfl)

theorem letT_cases (n : Nat) (c : Int) (t : Nat) : letT n c t = 97 ∨ letT n c t = 98 ∨ letT n c t = 35 := by
  unfold letT; split
  · exact letA_cases _
  · exact .inr (.inr rfl)

def widN (n : Nat) : Nat := if n = 1 then 2 else if n = 2 then 8 else 26

theorem letA_inj (d e : Int) (hd : 0 ≤ d ∧ d ≤ 2) (he : 0 ≤ e ∧ e ≤ 2) (h : letA d = letA e) : d = e := by
  have h1 : d = 0 ∨ d = 1 ∨ d = 2 := by omega
  have h2 : e = 0 ∨ e = 1 ∨ e = 2 := by omega
  rcases h1 with rfl | rfl | rfl <;> rcases h2 with rfl | rfl | rfl <;> first | rfl | (exact absurd h (by decide))

theorem lettersV_inj (n : Nat) (h1 : 1 ≤ n) (h3 : n ≤ 3) (c c' : Nat) (hc : c < widN n) (hc' : c' < widN n) (h : lettersV n c = lettersV n c') : c = c' := by
  unfold lettersV at h
  simp only [Value.agg.injEq] at h
  have h := congrArg Array.toList h
  simp only [List.cons.injEq, Value.int.injEq, true_and, and_true] at h
  obtain ⟨e0, e1, e2⟩ := h
  have : n = 1 ∨ n = 2 ∨ n = 3 := by omega
  rcases this with rfl | rfl | rfl
  · have a := letA_inj ((c : Int) % 3) ((c' : Int) % 3) (by omega) (by omega) (by simpa [letT, pow3] using e0)
    have : widN 1 = 2 := rfl
    omega
  · have a := letA_inj ((c : Int) % 3) ((c' : Int) % 3) (by omega) (by omega) (by simpa [letT, pow3] using e0)
    have b := letA_inj ((c : Int) / 3 % 3) ((c' : Int) / 3 % 3) (by omega) (by omega) (by simpa [letT, pow3] using e1)
    have : widN 2 = 8 := rfl
    omega
  · have a := letA_inj ((c : Int) % 3) ((c' : Int) % 3) (by omega) (by omega) (by simpa [letT, pow3] using e0)
    have b := letA_inj ((c : Int) / 3 % 3) ((c' : Int) / 3 % 3) (by omega) (by omega) (by simpa [letT, pow3] using e1)
    have d := letA_inj ((c : Int) / 9 % 3) ((c' : Int) / 9 % 3) (by omega) (by omega) (by simpa [letT, pow3] using e2)
    have : widN 3 = 26 := rfl
    omega

end Go.Proofs.Ytaebeglcoghehaa.Numbers
