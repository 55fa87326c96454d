
/- Steps of a walk through two automata at once: lists of them (four numbers each) that a function makes and appends to; the table of pairs that are met; what the program's function that meets a pair does.
   Conditions: stated at each theorem. -/
import Derived.Test.YtjplmmokbkkclaaFM6
import Derived.Test.YtjplmmokbkkclaaFM11
import Derived.Deep.RegionWith
import Derived.Test.YtjplmmokbkkclaaFM5
import Derived.RegionTactic
import Derived.ChangeAlike
import Derived.BigRegion
namespace Go.Proofs.Ytjplmmokbkkclaa.Steps
set_option linter.unusedVariables false
set_option linter.unusedSimpArgs false
open Go.RowKit Mem Copy Rel Heap Bld TidyMath First FirstTidy

structure Q where
  l : Nat
  r : Nat
  f : Nat
  c : Nat
def kq (q : Q) : Nat × Nat := (q.l, q.r)
def flat : List Q → List Value
  | [] => []
  | p :: t => .int .i64 (p.l : Nat) :: .int .i64 (p.r : Nat) :: .int .i64 (p.f : Nat) :: .int .i64 (p.c : Nat) :: flat t
theorem flat_length : ∀ ps : List Q, (flat ps).length = ps.length * 4
  | [] => rfl
  | p :: t => by rw [flat]; simp only [List.length_cons]; rw [flat_length t]; omega
theorem flat_append : ∀ (ps qs : List Q), flat (ps ++ qs) = flat ps ++ flat qs
  | [], qs => rfl
  | p :: t, qs => by rw [List.cons_append, flat, flat, flat_append t]; rfl
theorem flat_get : ∀ (ps : List Q) (i : Nat) (h : i < ps.length), (flat ps)[i * 4]? = some (.int .i64 (ps[i].l : Nat)) ∧ (flat ps)[i * 4 + 1]? = some (.int .i64 (ps[i].r : Nat)) ∧ (flat ps)[i * 4 + 2]? = some (.int .i64 (ps[i].f : Nat)) ∧ (flat ps)[i * 4 + 3]? = some (.int .i64 (ps[i].c : Nat))
  | p :: t, 0, h => ⟨rfl, rfl, rfl, rfl⟩
  | p :: t, i + 1, h => by
    have := flat_get t i (by simpa using h)
    rw [flat, show (i + 1) * 4 = i * 4 + 1 + 1 + 1 + 1 by omega]
    simp only [List.getElem?_cons_succ, List.getElem_cons_succ]
    exact this

/-- The slice value v is a list of the function's own of the steps ps. -/
def Stp (w : World) (B : Nat) (v : Value) (ps : List Q) : Prop := w.ownsRow B 84 4 v ps.length (flat ps)
section
variable {w w' : World} {B : Nat} {v : Value} {ps : List Q}
theorem Stp.nil (w : World) (B : Nat) : Stp w B (.slice none 0 0) [] := World.ownsRow_nil w B 84 4
theorem Stp.lt (h : Stp w B v ps) {k : Nat} (hk : v.ownBlock = some k) : k < w.heap.size := (World.ownsRow.lt h k hk).2
theorem Stp.ge (h : Stp w B v ps) {k : Nat} (hk : v.ownBlock = some k) : B ≤ k := (World.ownsRow.lt h k hk).1
theorem Stp.of_block (h : Stp w B v ps) (hb : ∀ k, v.ownBlock = some k → w'.heap[k]? = w.heap[k]?) : Stp w' B v ps := by
  refine ⟨h.1, ?_⟩
  rcases h.2 with h' | ⟨g, cap, cur, hv, hbg, hh, r⟩
  · exact .inl h'
  · refine .inr ⟨g, cap, cur, hv, hbg, ?_, r⟩
    rw [hb g (by rw [hv]; rfl)]; exact hh
theorem Stp.grown {row : Option Nat} (h : Stp w B v ps) (hg : w.grownBy w' row) (hr : ∀ k, row = some k → v.ownBlock ≠ some k) : Stp w' B v ps :=
  h.of_block fun k hk => hg.block k (h.lt hk) (fun e => hr k e.symm hk)
theorem Stp.below (h : Stp w B v ps) (hb : Below w.heap.size w w') : Stp w' B v ps :=
  h.of_block fun k hk => hb.block k (h.lt hk)
theorem Stp.alloc (h : Stp w B v ps) (o : Obj) : Stp (w.alloc o) B v ps := h.below ((Below.refl _ _).alloc (Nat.le_refl _) _)
theorem Stp.drewN (h : Stp w B v ps) (m : Nat) : Stp (w.drewN m) B v ps := h
theorem Stp.setOther (h : Stp w B v ps) {a : Addr} (ha : v.ownBlock ≠ some a.block) (u : Value) : Stp (w.setCell a u) B v ps :=
  h.of_block fun k hk => Below.heap_setCell _ _ _ _ (fun e => ha (by rw [← e]; exact hk))
theorem Stp.block (h : Stp w B v ps) (hn : 0 < ps.length) : ∃ g cap cur, v = .slice (some ⟨g, 0, none⟩) ps.length cap ∧ B ≤ g ∧ w.heap[g]? = some (.cells cur 84 (0, 0)) ∧
    ∀ i (hi : i < ps.length), cur[i * 4]? = some (.int .i64 (ps[i].l : Nat)) ∧ cur[i * 4 + 1]? = some (.int .i64 (ps[i].r : Nat)) ∧ cur[i * 4 + 2]? = some (.int .i64 (ps[i].f : Nat)) ∧ cur[i * 4 + 3]? = some (.int .i64 (ps[i].c : Nat)) := by
  rcases h.2 with ⟨rfl, h0⟩ | ⟨g, cap, cur, rfl, hbg, hh, hnc, hc, hs, ht⟩
  · omega
  · refine ⟨g, cap, cur, rfl, hbg, hh, fun i hi => ?_⟩
    have h1 := flat_get ps i hi
    rw [← ht] at h1
    simp only [List.getElem?_take] at h1
    rw [if_pos (by omega), if_pos (by omega), if_pos (by omega), if_pos (by omega)] at h1
    simpa using h1
theorem Stp.shape (h : Stp w B v ps) : ∃ a n cap, v = .slice a n cap ∧ Hid (n = ps.length) := by
  rcases h.2 with ⟨rfl, h0⟩ | ⟨g, cap, cur, rfl, -⟩
  · exact ⟨none, 0, 0, rfl, h0.symm⟩
  · exact ⟨_, _, _, rfl, rfl⟩
/-- The cells of a step. -/
theorem Stp.cells {g n cap : Nat} (h : Stp w B (.slice (some ⟨g, 0, none⟩) n cap) ps) {i : Nat} (hi : i < ps.length) :
    w.cell? ⟨g, i * 4, none⟩ = some (.int .i64 (ps[i].l : Nat)) ∧ w.cell? ⟨g, i * 4 + 1, none⟩ = some (.int .i64 (ps[i].r : Nat)) ∧ w.cell? ⟨g, i * 4 + 2, none⟩ = some (.int .i64 (ps[i].f : Nat)) ∧ w.cell? ⟨g, i * 4 + 3, none⟩ = some (.int .i64 (ps[i].c : Nat)) := by
  obtain ⟨g', cap', cur, hv, -, hh, hc⟩ := h.block (by omega)
  have e : (some (⟨g, 0, none⟩ : Addr)) = some ⟨g', 0, none⟩ := by injection hv
  cases e
  have h1 := hc i hi
  refine ⟨?_, ?_, ?_, ?_⟩
  · rw [cells_get hh]; exact h1.1
  · rw [cells_get hh]; exact h1.2.1
  · rw [cells_get hh]; exact h1.2.2.1
  · rw [cells_get hh]; exact h1.2.2.2
theorem Stp.addr {a : Option Addr} {n cap : Nat} (h : Stp w B (.slice a n cap) ps) (hn : 0 < ps.length) : ∃ g, a = some ⟨g, 0, none⟩ ∧ g < w.heap.size := by
  obtain ⟨g, cap', cur, hv, -, hh, -⟩ := h.block hn
  exact ⟨g, by injection hv, lt_of_block hh⟩
/-- Blocks of other kinds are other blocks. -/
theorem Stp.not_block {k : Nat} {c : Array Value} {t : TypeId} {r : Nat × Nat} (h : Stp w B v ps) (hb : w.heap[k]? = some (.cells c t r)) (ht : t ≠ 84) : v.ownBlock ≠ some k := by
  intro e
  rcases h.2 with ⟨rfl, -⟩ | ⟨g, cap, cur, rfl, hbg, hh, -⟩
  · cases e
  · cases e
    rw [hh] at hb
    cases hb
    exact ht rfl
theorem Stp.not_lst {B' : Nat} {t : TypeId} {v' : Value} {xs : List Value} (h : Stp w B v ps) (h' : Lst w B' t v' xs) (ht : t ≠ 84) (k : Nat) (e : v'.ownBlock = some k) : v.ownBlock ≠ some k := by
  rcases h'.2 with ⟨rfl, -⟩ | ⟨g, cap, cur, rfl, hbg, hh, -⟩
  · cases e
  · cases e
    exact h.not_block hh ht
end

theorem infoQ : (Try.prog.info? 84).map (fun i => (i.zero, i.size, i.bytes)) = some (some (.agg #[.int .i64 0, .int .i64 0, .int .i64 0, .int .i64 0]), 4, 32) := by kernel_rfl

structure PushedQ (w w' : World) (B : Nat) (v v' : Value) (ps : List Q) (p : Q) : Prop where
  stp : Stp w' B v' (ps ++ [p])
  grow : w.grownBy w' v.ownBlock
  at_ : v'.ownBlock = v.ownBlock ∨ ∃ g, v'.ownBlock = some g ∧ w.heap.size ≤ g

theorem wpList_pushQ {w : World} {ops : Array Oper} {rest : List Oper} {o : Oper} {a : Act} {K : Exit → Act → World → Prop} (hgd : o.guard = none) (s x : Operand)
    (ho : o.op = .call { callee := .builtin .append, args := #[s, x], argTypes := #[82, 82] })
    (B : Nat) (v : Value) (ps : List Q) (p : Q) (hown : Stp w B v ps) (hB : B ≤ w.heap.size) (hlen : ps.length ≤ 100000000) (hs : a.eval s = v) (N : Nat) (hx : a.eval x = .slice (some ⟨N, 0, none⟩) 1 1) (hN : w.heap.size = N)
    (h : ∀ v' w', PushedQ w w' B v v' ps p → wpList Try.prog ops K rest (a.put o.dst v') w') : wpList Try.prog ops K (o :: rest) a (w.alloc (.cells #[.int .i64 (p.l : Nat), .int .i64 (p.r : Nat), .int .i64 (p.f : Nat), .int .i64 (p.c : Nat)] 84)) := by
  obtain ⟨i, hi, hz, hsize, hbytes⟩ := info_parts infoQ
  subst hN
  refine wpList_append_own_at (P := Try.prog) _ hgd s x 82 ho B 84 i (.agg #[.int .i64 0, .int .i64 0, .int .i64 0, .int .i64 0]) 4 32 Try.underlying82 hi hz hsize hbytes rfl (by decide) v ps.length (flat ps) hs (Stp.alloc hown _) ⟨w.heap.size, 0, none⟩ 1 1 [.int .i64 (p.l : Nat), .int .i64 (p.r : Nat), .int .i64 (p.f : Nat), .int .i64 (p.c : Nat)] hx rfl ?_ ?_ (by unfold maxLen; omega) ?_ (by simp; omega) ?_
  · intro j u' hj
    match j, hj with
    | 0, hj => simp at hj; subst hj; exact World.cell?_alloc_mark ..
    | 1, hj => simp at hj; subst hj; exact World.cell?_alloc_mark ..
    | 2, hj => simp at hj; subst hj; exact World.cell?_alloc_mark ..
    | 3, hj => simp at hj; subst hj; exact World.cell?_alloc_mark ..
  · intro u' hu
    simp at hu
    rcases hu with rfl | rfl | rfl | rfl <;> rfl
  · have : (ps.length + 1) * 32 ≤ 100000001 * 32 := Nat.mul_le_mul (by omega) (Nat.le_refl _)
    omega
  · intro v' w' hown' hg _ hat
    refine h v' w' ⟨?_, grown_trans_alloc hg, ?_⟩
    · unfold Stp
      rw [List.length_append, flat_append]
      exact hown'
    · rcases hat with e | e
      · exact .inl e
      · exact .inr ⟨_, e, by simp⟩

/-- A table of truth values. -/
def tb (n : Nat) (T : Nat → Bool) : List Value := (List.range n).map fun i => Value.bool (T i)
theorem tb_length (n : Nat) (T : Nat → Bool) : (tb n T).length = n := by simp [tb]
theorem tb_get (n : Nat) (T : Nat → Bool) {i : Nat} (h : i < (tb n T).length) : (tb n T)[i] = .bool (T i) := by simp [tb]
theorem tb_congr {n : Nat} {T S : Nat → Bool} (h : ∀ i, i < n → T i = S i) : tb n T = tb n S := by
  unfold tb
  exact List.map_congr_left fun i hi => by rw [h i (List.mem_range.1 hi)]
theorem tb_set (n : Nat) (T : Nat → Bool) (k : Nat) (x : Bool) : (tb n T).set k (.bool x) = tb n fun i => if i = k then x else T i := by
  apply List.ext_getElem
  · simp [tb]
  · intro i h1 h2
    rw [List.getElem_set, tb_get _ _ h2]
    by_cases e : k = i
    · subst e; simp
    · rw [if_neg e, if_neg (fun h : i = k => e h.symm), tb_get n T (by rw [List.length_set] at h1; exact h1)]
theorem tb_rep (n : Nat) (x : Bool) : List.replicate n (Value.bool x) = tb n fun _ => x := by
  apply List.ext_getElem
  · simp [tb]
  · intro i h1 h2; simp [tb]

/-- Whether the pair with a number has been met. -/
def metB (m : Nat) (P : List Q) (i : Nat) : Bool := decide (idx kq P ⟨i / m, i % m, 0, 0⟩ < P.length)
def code (m : Nat) (q : Q) : Nat := q.l * m + q.r
theorem code_key {m : Nat} {q : Q} (h : q.r < m) : kq ⟨code m q / m, code m q % m, 0, 0⟩ = kq q := by
  unfold code kq
  show ((q.l * m + q.r) / m, (q.l * m + q.r) % m) = (q.l, q.r)
  rw [PairMath.pair_div h, PairMath.pair_mod h]
theorem metB_nil (m i : Nat) : metB m [] i = false := by simp [metB]
theorem metB_at {m : Nat} {P : List Q} {q : Q} (h : q.r < m) : metB m P (code m q) = decide (idx kq P q < P.length) := by
  unfold metB; rw [idx_congr kq (code_key h)]
theorem metB_push {m : Nat} {P : List Q} {q : Q} (h : q.r < m) (hn : ¬ idx kq P q < P.length) (i : Nat) : metB m (P ++ [q]) i = if i = code m q then true else metB m P i := by
  by_cases e : i = code m q
  · rw [if_pos e, e, metB_at h, idx_snoc]
    have := idx_le kq P q
    exact decide_eq_true (by rw [List.length_append]; simp; omega)
  · rw [if_neg e]
    have hne : kq ⟨i / m, i % m, 0, 0⟩ ≠ kq q := fun h' => e (by
      have h' : (i / m, i % m) = (q.l, q.r) := h'
      rw [Prod.mk.injEq] at h'
      unfold code
      rw [← h'.1, ← h'.2, Nat.mul_comm]
      exact (Nat.div_add_mod i m).symm)
    unfold metB
    by_cases h1 : idx kq P ⟨i / m, i % m, 0, 0⟩ < P.length
    · rw [decide_eq_true h1, idx_append kq h1]
      exact decide_eq_true (by rw [List.length_append]; omega)
    · rw [decide_eq_false h1]
      refine decide_eq_false ?_
      intro h2
      have h3 := idx_key kq h2
      have h4 : (P ++ [q])[idx kq (P ++ [q]) ⟨i / m, i % m, 0, 0⟩] ∈ P ++ [q] := List.getElem_mem h2
      rcases List.mem_append.1 h4 with h5 | h5
      · exact h1 (idx_lt_of_mem kq h5 h3)
      · rw [List.mem_singleton] at h5
        rw [h5] at h3
        exact hne h3.symm

/-- What has been met, in memory: a variable with the table, one with the list. -/
structure Met (w : World) (B bm bs g n m : Nat) (v : Value) (P : List Q) : Prop where
  boxM : w.heap[bm]? = some (.cells #[.slice (some ⟨g, 0, none⟩) n n] 22 (0, 0))
  boxS : w.heap[bs]? = some (.cells #[v] 82 (0, 0))
  tab : Lst w B 4 (.slice (some ⟨g, 0, none⟩) n n) (tb n (metB m P))
  lst : Stp w B v P
  bsB : B ≤ bs
  bms : bm ≠ bs

/-- What else there was stays. -/
structure MetFrame (w w' : World) (bs g : Nat) (v v' : Value) : Prop where
  os : w'.os = w.os
  tape : w'.tape = w.tape
  output : w'.output = w.output
  size : w.heap.size ≤ w'.heap.size
  block : ∀ k, k < w.heap.size → k ≠ bs → k ≠ g → v.ownBlock ≠ some k → w'.heap[k]? = w.heap[k]?
  at_ : v'.ownBlock = v.ownBlock ∨ ∃ q, v'.ownBlock = some q ∧ w.heap.size ≤ q

section
variable {w w' : World} {B bm bs g n m : Nat} {v v' : Value} {P : List Q}
theorem Met.drewN (h : Met w B bm bs g n m v P) (k : Nat) : Met (w.drewN k) B bm bs g n m v P := ⟨h.boxM, h.boxS, h.tab, h.lst, h.bsB, h.bms⟩
theorem Met.below (h : Met w B bm bs g n m v P) (hb : Below w.heap.size w w') : Met w' B bm bs g n m v P :=
  ⟨by rw [hb.block _ (lt_of_block h.boxM)]; exact h.boxM, by rw [hb.block _ (lt_of_block h.boxS)]; exact h.boxS, h.tab.below hb, h.lst.below hb, h.bsB, h.bms⟩
theorem Met.alloc (h : Met w B bm bs g n m v P) (o : Obj) : Met (w.alloc o) B bm bs g n m v P := h.below ((Below.refl _ _).alloc (Nat.le_refl _) _)
/-- All that lies below is left as it is. -/
theorem MetFrame.below (h : MetFrame w w' bs g v v') (hm : Met w B bm bs g n m v P) (hB : B ≤ w.heap.size) : Below B w w' :=
  ⟨h.os, h.tape, h.output, h.size, fun k hk => h.block k (by omega) (by have := hm.bsB; omega) (fun e => by have := hm.tab.ge (k := g) rfl; omega) (fun e => by have := hm.lst.ge e; omega)⟩
end

/-- What the walk needs of a pair that is new, and what it is in the end. -/
structure MetStep (w w5 : World) (B bm bs g n m y : Nat) (v v' : Value) (P : List Q) (p : Q) : Prop where
  box : w5.heap[bs]? = some (.cells #[v] 82 (0, 0))
  met : Met (w5.setCell ⟨bs, 0, none⟩ v') B bm bs g n m v' (P ++ [p])
  frame : MetFrame w (w5.setCell ⟨bs, 0, none⟩ v') bs g v v'

theorem Met.new {w w5 : World} {B bm bs g n m : Nat} {v v' : Value} {P : List Q} {p : Q} (h : Met w B bm bs g n m v P) (hp8 : p.r < m) (hc : code m p < n) (hidx : ¬ idx kq P p < P.length) (o : Obj)
    (hp5 : PushedQ ((w.setCell ⟨g, code m p, none⟩ (.bool true)).alloc o) w5 B v v' P p) : MetStep w w5 B bm bs g n m (code m p) v v' P p := by
  have hsg : bs ≠ g := fun e => block_apart h.tab h.boxS (by decide) (by rw [e]; rfl)
  have hmg : bm ≠ g := fun e => block_apart h.tab h.boxM (by decide) (by rw [e]; rfl)
  have hvs : v.ownBlock ≠ some bs := h.lst.not_block h.boxS (by decide)
  have hvm : v.ownBlock ≠ some bm := h.lst.not_block h.boxM (by decide)
  have hvg : v.ownBlock ≠ some g := h.lst.not_lst h.tab (by decide) g rfl
  have hsz : ((w.setCell ⟨g, code m p, none⟩ (.bool true)).alloc o).heap.size = w.heap.size + 1 := by rw [size_alloc']; simp [World.setCell]
  have hk : ∀ k, k < w.heap.size → k ≠ g → v.ownBlock ≠ some k → w5.heap[k]? = w.heap[k]? := fun k h1 h2 h3 => by
    rw [hp5.grow.block k (by omega) (fun e => h3 e.symm), Below.heap_alloc _ _ _ (by simpa [World.setCell] using h1), Below.heap_setCell _ _ _ _ h2]
  have lm := lt_of_block h.boxM
  have ls := lt_of_block h.boxS
  have t1 := h.tab.set (i := code m p) (by rw [tb_length]; exact hc) (.bool true)
  rw [tb_set] at t1
  have e1 : tb n (fun i => if i = code m p then true else metB m P i) = tb n (metB m (P ++ [p])) := tb_congr fun i _ => by rw [metB_push hp8 hidx]
  rw [e1] at t1
  have t5 := (t1.alloc o).grown hp5.grow fun k hk' e => h.lst.not_lst h.tab (by decide) k e hk'
  have b5' := (hk bs ls hsg hvs).trans h.boxS
  refine ⟨b5', ⟨?_, ?_, ?_, ?_, h.bsB, h.bms⟩, ⟨?_, ?_, ?_, ?_, ?_, ?_⟩⟩
  · rw [Below.heap_setCell _ _ _ _ h.bms, hk bm lm hmg hvm]; exact h.boxM
  · exact cells_set b5' 0 v'
  · exact t5.setOther (fun e => hsg (by injection e with e; exact e.symm)) _
  · exact hp5.stp.setOther (hp5.stp.not_block b5' (by decide)) _
  · exact hp5.grow.os
  · exact hp5.grow.tape
  · exact hp5.grow.output
  · have := hp5.grow.size; simp only [World.setCell, Array.size_modify] at *; omega
  · intro k h1 h2 h3 h4
    rw [Below.heap_setCell _ _ _ _ h2, hk k h1 h3 h4]
  · rcases hp5.at_ with e | ⟨q, e, hq⟩
    · exact .inl e
    · exact .inr ⟨q, e, by omega⟩

set_option maxHeartbeats 1000000 in
theorem meet (p : Q) (w : World) (B bS bm bs g n m cs : Nat) (sa : Option Addr) (v : Value) (P : List Q) (h : Met w B bm bs g n m v P) (hB : B ≤ w.heap.size) (hS : w.cell? ⟨bS, 3, none⟩ = some (.slice sa m cs)) (hl : p.l ≤ 10000) (hp8 : p.r < m) (hm : m ≤ 10000) (hc : code m p < n) (hP : P.length ≤ 100000000) :
    Calls Try.prog 64 #[.agg #[.int .i64 (p.l : Nat), .int .i64 (p.r : Nat), .int .i64 (p.f : Nat), .int .i64 (p.c : Nat)], .pointer (some ⟨bS, 0, none⟩), .pointer (some ⟨bm, 0, none⟩), .pointer (some ⟨bs, 0, none⟩)] w fun e w' =>
      e = .returned (.tuple #[]) ∧ ∃ v', Met w' B bm bs g n m v' (TidyMath.meet kq P p) ∧ MetFrame w w' bs g v v' := by
  have HM := Lib.hid h
  have cM := cells_get h.boxM 0
  have cS := cells_get h.boxS 0
  simp at cM cS
  have lM := lt_of_block h.boxM
  have lS := lt_of_block h.boxS
  have fS := cells_free h.boxS 0
  have cN := h.tab.cellOf (i := code m p) (by rw [tb_length]; exact hc)
  rw [tb_get, metB_at hp8] at cN
  have lN := World.block_lt_of_cell? _ _ cN
  have fN := h.tab.free (code m p)
  have lB := World.block_lt_of_cell? _ _ hS
  have hn : code m p ≤ 100010000 := by
    unfold code
    have : p.l * m ≤ 10000 * 10000 := Nat.mul_le_mul hl hm
    omega
  obtain ⟨a5, n5, cp5, rfl, HN5⟩ := h.lst.shape
  have hw1 : IntKind.i64.wrap ((p.l : Int) * (m : Int)) = (p.l : Int) * (m : Int) := by
    have h1 : p.l * m ≤ 10000 * 10000 := Nat.mul_le_mul hl hm
    have h2 : ((p.l * m : Nat) : Int) = (p.l : Int) * (m : Int) := Int.natCast_mul _ _
    rw [IntKind.wrap_i64]; omega
  have hw2 : IntKind.i64.wrap ((p.l : Int) * (m : Int) + (p.r : Int)) = ((code m p : Nat) : Int) := by
    have h2 : ((p.l * m : Nat) : Int) = (p.l : Int) * (m : Int) := Int.natCast_mul _ _
    have h3 : ((code m p : Nat) : Int) = (p.l : Int) * (m : Int) + (p.r : Int) := by unfold code; omega
    rw [IntKind.wrap_i64]; omega
  obtain ⟨y, hy⟩ : ∃ y, y = code m p := ⟨_, rfl⟩
  obtain ⟨d, hd⟩ : ∃ d, d = idx kq P p := ⟨_, rfl⟩
  have HD := Lib.hid hd
  have HY := Lib.hid hy
  have HP8 := Lib.hid hp8
  rw [← hy] at cN fN hc hw2 hn
  rw [← hd] at cN
  have HNW := Lib.hid (fun (hi : ¬ idx kq P p < P.length) o w5 v' hp5 => HM.out.new (w5 := w5) (v' := v') HP8.out (by rw [← HY.out]; exact hc) hi o hp5)
  rw [← HY.out] at HNW
  obtain ⟨pl, pr, pf, pc⟩ := p
  simp only at hw1 hw2
  clear h hy hd
  by_cases hlt : d < P.length
  · rw [decide_eq_true hlt] at cN
    have HMM := Lib.hid (show TidyMath.meet kq P ⟨pl, pr, pf, pc⟩ = P by unfold TidyMath.meet; rw [if_pos (by rw [← HD.out]; exact hlt)])
    go_enter Try.func64, Try.ntmps64
    go_wp2_with fail
    go_end0
    exact ⟨rfl, _, by rw [HMM.out]; exact HM.out.alloc _, ⟨rfl, rfl, rfl, by simp, fun k hk _ _ _ => Below.heap_alloc _ _ _ hk, .inl rfl⟩⟩
  · rw [decide_eq_false hlt] at cN
    have HMM := Lib.hid (show TidyMath.meet kq P ⟨pl, pr, pf, pc⟩ = P ++ [⟨pl, pr, pf, pc⟩] by unfold TidyMath.meet; rw [if_neg (by rw [← HD.out]; exact hlt)])
    have hsg : bs ≠ g := fun e => block_apart HM.out.tab HM.out.boxS (by decide) (by rw [e]; rfl)
    have hsg' : g ≠ bs := Ne.symm hsg
    have HI := Lib.hid (show ¬ idx kq P ⟨pl, pr, pf, pc⟩ < P.length by rw [← HD.out]; exact hlt)
    have HPL := Lib.hid (show Stp (w.setCell ⟨g, y, none⟩ (.bool true)) B (.slice a5 n5 cp5) P from HM.out.lst.setOther (a := ⟨g, y, none⟩) (HM.out.lst.not_lst HM.out.tab (by decide) g rfl) _)
    have HBB := Lib.hid (show B ≤ (w.setCell ⟨g, y, none⟩ (.bool true)).heap.size by simpa [World.setCell] using hB)
    have HLL := Lib.hid hP
    clear hP
    go_enter Try.func64, Try.ntmps64
    go_wp2_with (at_builtin; refine wpList_pushQ rfl _ _ rfl B (.slice a5 n5 cp5) P ⟨pl, pr, pf, pc⟩ (HPL.out.alloc _) (by rw [size_alloc']; exact Nat.le_succ_of_le HBB.out) HLL.out rfl _ rfl (by simp [World.setCell]) ?_; intro v5 w5 hp5; have HS := Lib.hid (HNW.out HI.out _ _ _ hp5); obtain ⟨a6, n6, cp6, rfl, HN6⟩ := hp5.stp.shape; have q5 := cells_get HS.out.box 0; have z5 := cells_free HS.out.box 0; have l5' := lt_of_block HS.out.box; simp at q5; clear hp5)
    go_end0
    exact ⟨rfl, _, by rw [HMM.out]; exact HS.out.met, HS.out.frame⟩
end Go.Proofs.Ytjplmmokbkkclaa.Steps
/- What the library's function that reverses a list of numbers does to a list of one's own.
   Conditions: stated at each theorem. -/
namespace Go.Proofs.Ytjplmmokbkkclaa.Reverse
set_option linter.unusedVariables false
set_option linter.unusedSimpArgs false
open Go.RowKit Mem Copy Heap

/-- The first and the last k numbers have been exchanged. -/
def swp (k n : Nat) (T : Nat → Int) (i : Nat) : Int := if i < k ∨ n - k ≤ i then T (n - 1 - i) else T i
theorem swp_zero (n : Nat) (T : Nat → Int) {i : Nat} (h : i < n) : swp 0 n T i = T i := by unfold swp; rw [if_neg (by omega)]
theorem swp_end {k n : Nat} (h : n ≤ 2 * k + 1) (T : Nat → Int) {i : Nat} (hi : i < n) : swp k n T i = T (n - 1 - i) := by
  unfold swp
  split
  · rfl
  · rw [show n - 1 - i = i by omega]
theorem swp_next {k n : Nat} (h : 2 * k + 1 < n) (T : Nat → Int) :
    ((tv n (swp k n T)).set k (.int .i64 (swp k n T (n - 1 - k)))).set (n - 1 - k) (.int .i64 (swp k n T k)) = tv n (swp (k + 1) n T) := by
  rw [tv_set, tv_set]
  refine tv_congr fun i hi => ?_
  unfold swp
  by_cases h1 : i = n - 1 - k
  · subst h1
    rw [if_pos rfl, if_neg (by omega), if_pos (by omega)]
    congr 1; omega
  · rw [if_neg h1]
    by_cases h2 : i = k
    · subst h2
      rw [if_pos rfl, if_neg (by omega), if_pos (by omega)]
    · rw [if_neg h2]
      by_cases h3 : i < k ∨ n - k ≤ i
      · rw [if_pos h3, if_pos (by omega)]
      · rw [if_neg h3, if_neg (by omega)]
theorem swp_next' {k n : Nat} (h : 2 * k + 1 < n) (T : Nat → Int) :
    ((tv n (swp k n T)).set (n - 1 - k) (.int .i64 (swp k n T k))).set k (.int .i64 (swp k n T (n - 1 - k))) = tv n (swp (k + 1) n T) := by
  rw [List.set_comm _ _ (by omega)]; exact swp_next h T

set_option maxRecDepth 100000 in
set_option maxHeartbeats 4000000 in
theorem reverse (w : World) (B : Nat) (v : Value) (n : Nat) (T : Nat → Int) (h : Lst w B 2 v (tv n T)) (hB : B ≤ w.heap.size) (hn : n ≤ 100000000) :
    Calls Try.prog 75 #[v] w fun e w' => e = .returned (.tuple #[]) ∧ Lst w' B 2 v (tv n fun i => T (n - 1 - i)) ∧ Below B w w' := by
  by_cases h0 : 0 < n
  · obtain ⟨g, cap, rfl, hg, -, hf⟩ := h.view (by rw [tv_length]; exact h0)
    rw [tv_length] at h ⊢
    have HL := Lib.hid (show Lst w B 2 (.slice (some ⟨g, 0, none⟩) n cap) (tv n (swp 0 n T)) by rw [tv_congr (S := T) (fun i hi => swp_zero n T hi)]; exact h)
    have HG := Lib.hid (Below.refl B w)
    clear hf h
    have hw0 : IntKind.i64.wrap ((n : Int) - 1) = (n : Int) - 1 := by rw [IntKind.wrap_i64]; omega
    go_enter Try.func75, Try.ntmps75
    go_wp2_with fail
    go_loopw [2, 3] (fun a b wr => ∃ k : Nat, 2 * k ≤ n + 1 ∧ a = .int .i64 k ∧ b = .int .i64 ((n : Int) - 1 - k) ∧ Lst wr B 2 (.slice (some ⟨g, 0, none⟩) n cap) (tv n (swp k n T)) ∧ Below B w wr) (fun a b _ => n - (intOf a).toNat)
    case atStart => exact ⟨0, by omega, rfl, by simp, HL.out, HG.out⟩
    case round =>
      obtain ⟨k, hk, rfl, rfl, hl, hgr⟩ := hrel
      have HL1 := Lib.hid hl
      have HG1 := Lib.hid hgr
      by_cases hlt : 2 * k + 1 < n
      · have c1 := hl.cellOf (i := k) (by rw [tv_length]; omega)
        have c2 := hl.cellOf (i := n - 1 - k) (by rw [tv_length]; omega)
        rw [tv_get] at c1 c2
        have f1 := hl.free k
        have f2 := hl.free (n - 1 - k)
        have lg := hl.lt (k := g) rfl
        obtain ⟨j, hj⟩ : ∃ j, j = n - 1 - k := ⟨_, rfl⟩
        have HJ := Lib.hid hj
        have ej : ((n : Int) - 1 - (k : Int)) = (j : Int) := by omega
        rw [← hj] at c2 f2
        rw [ej]
        have hkj : k ≠ j := by omega
        have hjk : j ≠ k := by omega
        have hjn : j < n := by omega
        have hkn : k < n := by omega
        have hkj' : k < j := by omega
        have hwk : IntKind.i64.wrap ((k : Int) + 1) = (k : Int) + 1 := by rw [IntKind.wrap_i64]; omega
        have hwj : IntKind.i64.wrap ((j : Int) - 1) = (j : Int) - 1 := by rw [IntKind.wrap_i64]; omega
        have HLT := Lib.hid hlt
        clear hl hgr hj ej HL HG hlt hw0
        go_wp2_with fail
        go_region
        all_goals
          go_wp2_with fail
          go_roundw
          case rel =>
            have hl2 := HL1.out
            refine ⟨k + 1, by have := HLT.out; omega, by go_num, by have := HJ.out; have := HLT.out; congr 1; omega, ?_, ?_⟩
            · first
                | exact (show Lst _ _ _ _ _ from by
                    have h1 := (hl2.set (i := k) (by rw [tv_length]; exact hkn) (.int .i64 (swp k n T j))).set (i := j) (by rw [List.length_set, tv_length]; exact hjn) (.int .i64 (swp k n T k))
                    rw [HJ.out, swp_next HLT.out, ← HJ.out] at h1
                    exact h1.drew)
                | exact (show Lst _ _ _ _ _ from by
                    have h1 := (hl2.set (i := j) (by rw [tv_length]; exact hjn) (.int .i64 (swp k n T k))).set (i := k) (by rw [List.length_set, tv_length]; exact hkn) (.int .i64 (swp k n T j))
                    rw [HJ.out, swp_next' HLT.out, ← HJ.out] at h1
                    exact h1.drew)
            · exact ((HG1.out.setCell (hl2.ge (k := g) rfl) _).setCell (hl2.ge (k := g) rfl) _).drew
          case measure => simp [intOf]; omega
      · have d1 : decide ((k : Int) < (n : Int) - 1 - (k : Int)) = false := by simp; omega
        have HEQ := Lib.hid (show tv n (swp k n T) = tv n fun i => T (n - 1 - i) from tv_congr fun i hi => swp_end (by omega) T hi)
        clear hl hgr HL HG hlt hw0
        go_wp2_with fail
        go_end0
        exact ⟨rfl, by rw [← HEQ.out]; exact HL1.out, HG1.out⟩
  · obtain rfl : n = 0 := by omega
    have HL := Lib.hid h
    obtain ⟨a, m, cap, rfl, hm⟩ := h.shape'
    have hm0 : m = 0 := hm
    subst hm0
    have HE := Lib.hid (show (tv 0 fun i => T (0 - 1 - i)) = tv 0 T from rfl)
    clear h hm h0
    go_enter Try.func75, Try.ntmps75
    go_wp2_with fail
    refine wp_loop_rounds 1 ?_
    rw [rounds_succ]
    go_wp2_with fail
    go_end0
    exact ⟨rfl, by rw [HE.out]; exact HL.out, Below.refl _ _⟩
end Go.Proofs.Ytjplmmokbkkclaa.Reverse
