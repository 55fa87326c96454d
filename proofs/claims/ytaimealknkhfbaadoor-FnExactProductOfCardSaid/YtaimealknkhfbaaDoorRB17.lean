
/- What the program's function that numbers the classes of states hands back.
   Conditions: stated at each theorem. -/
import Derived.Test.YtaimealknkhfbaaDoorRB16
import Derived.Test.YtaimealknkhfbaaDoorRB7
import Derived.Test.YtaimealknkhfbaaDoorRB4
import Derived.Test.YtaimealknkhfbaaDoorRB6
import Derived.Deep.RegionWith
import Derived.Deep.QuietTactic
import Derived.BigQuiet
import Derived.Deep.DeepCutAuto
import Derived.Deep.WholeRow
import Derived.StillTailTactics
import Derived.Test.YtaimealknkhfbaaDoorRB2
namespace Go.Proofs.YtaimealknkhfbaaDoor.ImplClasses
set_option linter.unusedVariables false
set_option maxRecDepth 20000
set_option linter.unusedSimpArgs false
open Go.RowKit Go.Maps Mem Copy Rel Heap Bld TidyMath TidyClass TidyAuto SpecFiner Sigs MarkRow

/-- A table of short numbers. -/
def tw (n : Nat) (T : Nat → Nat) : List Value := (List.range n).map fun i => Value.int .i32 ((T i : Nat) : Int)
theorem tw_length (n : Nat) (T : Nat → Nat) : (tw n T).length = n := by simp [tw]
theorem tw_get (n : Nat) (T : Nat → Nat) {i : Nat} (h : i < (tw n T).length) : (tw n T)[i] = .int .i32 ((T i : Nat) : Int) := by simp [tw]
theorem tw_set (n : Nat) (T : Nat → Nat) (k : Nat) (x : Nat) : (tw n T).set k (.int .i32 (x : Int)) = tw n fun i => if i = k then x else T i := by
  apply List.ext_getElem
  · simp [tw]
  · intro i h1 h2
    rw [List.getElem_set, tw_get _ _ h2]
    by_cases e : k = i
    · subst e; simp
    · rw [if_neg e, if_neg (fun h : i = k => e h.symm), tw_get n T (by rw [List.length_set] at h1; exact h1)]
theorem tw_congr {n : Nat} {T S : Nat → Nat} (h : ∀ i, i < n → T i = S i) : tw n T = tw n S := by
  unfold tw
  exact List.map_congr_left fun i hi => by rw [h i (List.mem_range.1 hi)]
theorem tw_rep (n : Nat) : List.replicate n (Value.int .i32 0) = tw n fun _ => 0 := by
  apply List.ext_getElem
  · simp [tw]
  · intro i h1 h2; simp [tw]

theorem rows_grown {w w' : World} {B bm : Nat} {v : Value} {xss : List (List Int)} (h : IntRows w B v xss) (hg : w.grownBy w' (some bm)) (hB : B ≤ bm) : IntRows w' B v xss := by
  obtain ⟨V, h1, h2⟩ := h
  exact ⟨V, sl_grown h1 hg (fun k e => by cases e; exact hB), fun i hi => sl_grown (h2 i hi) hg (fun k e => by cases e; exact hB)⟩
theorem lst_not_map {w : World} {B : Nat} {t : TypeId} {v : Value} {xs : List Value} {bm n : Nat} {D : DataW Unit} (h : Lst w B t v xs) (hm : w.ownsMap Tryd.prog 134 (plainElem Tryd.prog 21) bm n D) : v.ownBlock ≠ some bm := by
  obtain ⟨es, clock, hb, -⟩ := hm
  intro e
  rcases h.2 with ⟨rfl, -⟩ | ⟨g, cap, cur, rfl, hbg, hh, -⟩
  · cases e
  · cases e
    rw [hh] at hb
    cases hb

/-- The variables that the function captures. -/
structure Ctx (w : World) (bm b2 b3 b4 b5 : Nat) (k mst : Nat) (va vn : Value) : Prop where
  box2 : w.heap[b2]? = some (.cells #[.map (some bm)] 131 (0, 0))
  box3 : w.heap[b3]? = some (.cells #[.int .i64 k, .int .i64 1, va, vn] 27 (0, 0))
  box4 : w.heap[b4]? = some (.cells #[.int .i64 mst] 3 (0, 0))
  box5 : w.heap[b5]? = some (.cells #[.func (.func 79) #[] #[.pointer (some ⟨b2, 0, none⟩), .pointer (some ⟨b3, 0, none⟩), .pointer (some ⟨b4, 0, none⟩), .pointer (some ⟨b5, 0, none⟩)]] 132 (0, 0))
theorem Ctx.grown {w w' : World} {bm b2 b3 b4 b5 : Nat} {k mst n : Nat} {va vn : Value} {D : DataW Unit} (h : Ctx w bm b2 b3 b4 b5 k mst va vn) (hm : w.ownsMap Tryd.prog 134 (plainElem Tryd.prog 21) bm n D) (hg : w.grownBy w' (some bm)) : Ctx w' bm b2 b3 b4 b5 k mst va vn := by
  obtain ⟨es, clock, hb, -⟩ := hm
  have hne : ∀ {c : Array Value} {t : TypeId} {r : Nat × Nat} {q : Nat}, w.heap[q]? = some (.cells c t r) → some q ≠ some bm := fun hq e => by
    cases e; rw [hq] at hb; cases hb
  exact ⟨by rw [hg.block b2 (lt_of_block h.box2) (hne h.box2)]; exact h.box2, by rw [hg.block b3 (lt_of_block h.box3) (hne h.box3)]; exact h.box3,
    by rw [hg.block b4 (lt_of_block h.box4) (hne h.box4)]; exact h.box4, by rw [hg.block b5 (lt_of_block h.box5) (hne h.box5)]; exact h.box5⟩

theorem info32 : (Tryd.prog.info? 21).map (fun i => (i.zero, i.size, i.bytes)) = some (some (.int .i32 0), 1, 4) := by kernel_rfl
theorem infoS : (Tryd.prog.info? 134).map (·.size) = some 27 := by kernel_rfl

/-- A cell of a key of which c columns have been written. -/
def kc (c0 : Nat) (row : List Nat) (c i : Nat) : Nat := if i = 0 then c0 else if i ≤ c then row.getD (i - 1) 0 else 0
theorem kc_end (c0 : Nat) (row : List Nat) (h : row.length ≤ 26) : ((List.range 27).map fun i => Value.int .i32 ((kc c0 row row.length i : Nat) : Int)) = (sgL (c0, row)).map (Value.int .i32) := by
  apply List.ext_getElem
  · simp [sgL]; omega
  · intro i h1 h2
    have hi : i < 27 := by simpa using h1
    simp only [List.getElem_map, List.getElem_range]
    congr 1
    unfold kc sgL
    cases i with
    | zero => rw [if_pos rfl]; rfl
    | succ i =>
      rw [if_neg (by omega), List.getElem_cons_succ]
      by_cases hr : i < row.length
      · rw [if_pos (by omega), List.getElem_append_left (by simpa using hr)]
        simp [List.getD, hr]
      · rw [if_neg (by omega), List.getElem_append_right (by simpa using hr)]
        simp
theorem row_cells {w : World} {b e n : Nat} {f : Nat → Value} (h : w.rowIs b e n f) : w.heap[b]? = some (.cells ((List.range n).map f).toArray e (0, 0)) := by
  obtain ⟨cur, hc, hs, hf⟩ := h
  rw [hc]
  congr 2
  apply Array.ext_getElem?
  intro i
  by_cases hi : i < n
  · rw [hf i hi]; simp [hi]
  · rw [Array.getElem?_eq_none (by omega)]; simp [hi]
theorem load_key {w : World} {b : Nat} {xs : List Int} (hl : xs.length = 27) (h : w.heap[b]? = some (.cells (xs.map (Value.int .i32)).toArray 134 (0, 0))) :
    (Instr.loadAt 134 (.pointer (some ⟨b, 0, none⟩))).run Tryd.prog w = .ok (valK xs) w := by
  have h1 := run_loadVar_row (P := Tryd.prog) w b 134 134 _ (0, 0) _ h underT rfl (by rw [infoS]; simp [hl])
  simp only [Instr.loadAt, Instr.sureAddr, Sem.run_bind, Sem.run_pure, Result.andThen_ok, h1]
  rfl

theorem cls_small (A : Au) (j : Nat) {s : Nat} (hs : s < A.n) : cls A j s ≤ A.n + 1 := by
  cases j with
  | zero => unfold cls; split <;> omega
  | succ j => have := cls_lt A j hs; have := cn_le A (j + 1); omega
theorem sgok {A : Au} {rows : List (List Nat)} {wd : Nat} (hR : RowsOk rows A.n wd) (hA : ∀ s, A.nx s = rows.getD s []) (hw : wd ≤ 26) (hn : A.n ≤ 1000000) (j : Nat) : SgOk (sig A (cls A j)) A.n wd where
  len := fun s hs => by unfold sig; rw [List.length_map, hA]; exact (hR.2 s hs).1
  fst := fun s hs => by have := cls_small A j hs; show cls A j s ≤ _; omega
  snd := fun s hs x hx => by
    obtain ⟨t, ht, rfl⟩ := List.mem_map.1 hx
    rw [hA] at ht
    obtain ⟨k, hk, rfl⟩ := List.getElem_of_mem ht
    have h1 := (hR.2 s hs).2 k (by rw [← (hR.2 s hs).1]; exact hk)
    rw [List.getD, List.getElem?_eq_getElem hk, Option.getD_some] at h1
    have := cls_small A j h1
    omega
  wd := hw

/-- The classes in the next finer numbering, of which so many have been written. -/
def fin (A : Au) (j s i : Nat) : Nat := if i < s then cls A (j + 1) i else 0
theorem fin_set (A : Au) (j n s x : Nat) (hx : x = cls A (j + 1) s) : (tw n (fin A j s)).set s (.int .i32 (x : Int)) = tw n (fin A j (s + 1)) := by
  rw [tw_set]
  refine tw_congr fun i _ => ?_
  unfold fin
  by_cases e : i = s
  · subst e; rw [if_pos rfl, if_pos (Nat.lt_succ_self i), hx]
  · have : (i < s + 1) = (i < s) := by apply propext; constructor <;> intro h <;> omega
    simp only [if_neg e, this]
theorem fin_all (A : Au) (j n : Nat) : tw n (fin A j n) = tw n (cls A (j + 1)) := tw_congr fun i hi => if_pos hi

/-- What the recursive function answers from step j on. -/
def Con (A : Au) (rows : List (List Nat)) (mst j : Nat) : Prop :=
  ∀ (w : World) (v : Value) (B Br bm b2 b3 b4 b5 k m : Nat) (va : Value) (ab : Option Addr) (cb : Nat) (D : DataW Unit), Ctx w bm b2 b3 b4 b5 k mst va (.slice ab A.n cb) → IntRows w Br (.slice ab A.n cb) (rows.map ofN) → Br ≤ bm →
      w.ownsMap Tryd.prog 134 (plainElem Tryd.prog 21) bm m D → Lst w B 21 v (tw A.n (cls A j)) → B ≤ w.heap.size →
      Calls Tryd.prog 79 #[v, .int .i64 (cn A j), .pointer (some ⟨b2, 0, none⟩), .pointer (some ⟨b3, 0, none⟩), .pointer (some ⟨b4, 0, none⟩), .pointer (some ⟨b5, 0, none⟩)] w fun e w' =>
        ∃ (av : Option Addr) (nv cv : Nat), e = .returned (.tuple #[.slice av nv cv, .bool (decide (TidyAuto.most A ≤ mst))]) ∧ w.grownBy w' (some bm) ∧ (TidyAuto.most A ≤ mst → Lst w' B 21 (.slice av nv cv) (tw A.n (cls A (TidyAuto.stop A + 1))))

theorem grown_alloc {w w' : World} {row : Option Nat} (h : w.grownBy w' row) (o : Obj) : w.grownBy (w'.alloc o) row := grown_below h ((Below.refl _ _).alloc (Nat.le_refl _) _)

/-- A new key: its zero, and with the first number in it. -/
def kz : Array Value := ⟨List.replicate 27 (Value.int .i32 0)⟩
def ks (y : Nat) : Array Value := ⟨Value.int .i32 (y : Int) :: List.replicate 26 (Value.int .i32 0)⟩
theorem build_eq (y : Nat) (w : World) : (Instr.build 134 #[(0, .int .i32 (y : Int))]).run Tryd.prog w = .ok (.agg (ks y)) w := by kernel_rfl
theorem alloc_eq (w : World) : (Instr.alloc 134 true (.tuple #[])).run Tryd.prog w = .ok (.pointer (some ⟨w.heap.size, 0, none⟩)) (w.alloc (.cells kz 134)) := by kernel_rfl
theorem wpList_build27 {w : World} {ops : Array Oper} {rest : List Oper} {op : Oper} {a : Act} {Q : Exit → Act → World → Prop} (hgd : op.guard = none) (x : Operand) (ho : op.op = .build 134 #[(0, x)]) (y : Nat) (hx : a.eval x = .int .i32 (y : Int))
    (h : wpList Tryd.prog ops Q rest (a.put op.dst (.agg (ks y))) w) : wpList Tryd.prog ops Q (op :: rest) a w :=
  wpList_plain hgd fun K hK => by
    unfold Oper.wp execOp
    simp only [ho, List.map_toArray, List.map_cons, List.map_nil, hx, Sem.run_bind, build_eq, Result.andThen_ok, Sem.run_pure]
    exact hK _ _ h
theorem wpList_alloc27 {w : World} {ops : Array Oper} {rest : List Oper} {op : Oper} {a : Act} {Q : Exit → Act → World → Prop} (hgd : op.guard = none) (ho : op.op = .alloc 134)
    (h : wpList Tryd.prog ops Q rest (a.put op.dst (.pointer (some ⟨w.heap.size, 0, none⟩))) (w.alloc (.cells kz 134))) : wpList Tryd.prog ops Q (op :: rest) a w :=
  wpList_plain hgd fun K hK => by
    unfold Oper.wp execOp
    simp only [ho, Sem.run_bind, alloc_eq, Result.andThen_ok, Sem.run_pure]
    exact hK _ _ h
theorem wpList_store27 {w : World} {ops : Array Oper} {rest : List Oper} {op : Oper} {a : Act} {Q : Exit → Act → World → Prop} (hgd : op.guard = none) (x v : Operand) (ho : op.op = .store 134 x v) (y : Nat) (hx : a.eval x = .pointer (some ⟨w.heap.size, 0, none⟩)) (hv : a.eval v = .agg (ks y))
    (h : wpList Tryd.prog ops Q rest (a.put op.dst undef) (w.alloc (.cells (ks y) 134))) : wpList Tryd.prog ops Q (op :: rest) a (w.alloc (.cells kz 134)) :=
  wpList_plain hgd fun K hK => by
    have h1 := run_storeAt_new (P := Tryd.prog) w 134 kz (ks y) (by rw [infoS]; rfl) rfl (by simp [ks, Value.oneCell'])
    unfold Oper.wp execOp
    simp only [ho, hx, hv, Sem.run_bind, h1, Result.andThen_ok, Sem.run_pure]
    exact hK _ _ h
theorem key_new (w : World) (y : Nat) (row : List Nat) : (w.alloc (.cells (ks y) 134)).rowIs w.heap.size 134 27 (fun i => .int .i32 ((kc y row 0 i : Nat) : Int)) := by
  refine ⟨_, heap_alloc_new _ _, rfl, fun i hi => ?_⟩
  unfold ks
  rw [List.getElem?_toArray]
  cases i with
  | zero => rfl
  | succ i =>
    rw [List.getElem?_cons_succ, List.getElem?_replicate, if_pos (by omega)]
    show some (Value.int .i32 0) = some (Value.int .i32 ((kc y row 0 (i + 1) : Nat) : Int))
    unfold kc
    rw [if_neg (by omega), if_neg (by omega)]; rfl

theorem below_none {w w' : World} (h : Below w.heap.size w w') : w.grownBy w' none := ⟨h.os, h.tape, h.output, h.size, fun k hk _ => h.block k hk⟩
theorem grown_setNew {w W : World} {row : Option Nat} (h : w.grownBy W row) {a : Addr} (ha : w.heap.size ≤ a.block) (u : Value) : w.grownBy (W.setCell a u) row :=
  ⟨h.os, h.tape, h.output, by simpa [World.setCell] using h.size, fun k hk hne => (Below.heap_setCell _ _ _ _ (by omega)).trans (h.block k hk hne)⟩
theorem kc_set (y : Nat) (row : List Nat) (c : Nat) (i : Nat) : kc y row (c + 1) i = if i = c + 1 then row.getD c 0 else kc y row c i := by
  unfold kc
  by_cases e : i = c + 1
  · subst e; rw [if_neg (by omega), if_pos (Nat.le_refl _), if_pos rfl]; rfl
  · rw [if_neg e]
    by_cases h0 : i = 0
    · rw [if_pos h0, if_pos h0]
    · rw [if_neg h0, if_neg h0]
      by_cases h : i ≤ c
      · rw [if_pos h, if_pos (by omega)]
      · rw [if_neg h, if_neg (by omega)]
theorem wpList_loadKey {w : World} {ops : Array Oper} {rest : List Oper} {op : Oper} {a : Act} {Q : Exit → Act → World → Prop} (hgd : op.guard = none) (x : Operand) (ho : op.op = .load 134 x) (Z : Nat) (hx : a.eval x = .pointer (some ⟨Z, 0, none⟩)) (kk : Value)
    (hk : (Instr.loadAt 134 (.pointer (some ⟨Z, 0, none⟩))).run Tryd.prog w = .ok kk w) (h : wpList Tryd.prog ops Q rest (a.put op.dst kk) w) : wpList Tryd.prog ops Q (op :: rest) a w :=
  wpList_plain hgd fun K hK => by
    unfold Oper.wp execOp
    simp only [ho, hx, Sem.run_bind, hk, Result.andThen_ok, Sem.run_pure]
    exact hK _ _ h
theorem look_eq {w : World} {b n : Nat} {D : DataW Unit} {key : Value} {kl : Lit} (hown : w.ownsMap Tryd.prog 134 (plainElem Tryd.prog 21) b n D) (hkey : keyOf Tryd.prog 134 key = some kl) (c0 : Int) (bb : Bool)
    (hat : D.atKey kl (.lit (.int .i32 0)) = .lit (.int .i32 c0)) (hhas : Maps.has D kl = bb) :
    (Instr.lookup 131 (.map (some b)) key true).run Tryd.prog w = .ok (.tuple #[.int .i32 c0, .bool bb]) w := by
  obtain ⟨v, ps, hrun, hv⟩ := hown.look_ok law Tryd.underlying131 (zero32 w) (plainElem_int underE (by decide)) hkey
  obtain ⟨c, rfl, hc, hwc⟩ := plainElem_int_inv underE hv
  rw [hat] at hc
  have h1 := congrArg Prod.fst hc
  injection h1 with h1
  injection h1 with _ h1
  rw [hrun, hhas, h1]

set_option maxRecDepth 100000 in
set_option maxHeartbeats 8000000 in
theorem step (A : Au) (rows : List (List Nat)) (wd : Nat) (hR : RowsOk rows A.n wd) (hA : ∀ s, A.nx s = rows.getD s []) (hw : wd ≤ 26) (hn : A.n ≤ 1000000) (hn1 : 1 ≤ A.n) (mst : Nat) (hmst : mst ≤ 1000000)
    (j : Nat) (hj : j ≤ TidyAuto.stop A) (hIH : j < TidyAuto.stop A → Con A rows mst (j + 1)) : Con A rows mst j := by
  intro w v B Br bm b2 b3 b4 b5 k m va ab cb D hctx hnx hBr hmap hcls hB
  have HIH := Lib.hid hIH
  have HSG := Lib.hid (sgok hR hA hw hn j)
  have HMD := Lib.hid (fun s hs => md_ok HSG.out s hs)
  have HBS := Lib.hid hB
  obtain ⟨n, hnn⟩ : ∃ n, n = A.n := ⟨_, rfl⟩
  obtain ⟨x, hx⟩ : ∃ x, x = cn A j := ⟨_, rfl⟩
  have HX := Lib.hid hx
  have hx8 : x ≤ 1000000 := by rw [hx]; exact Nat.le_trans (cn_le A j) hn
  have HNN := Lib.hid hnn
  have HRW := Lib.hid hR
  have HAA := Lib.hid hA
  rw [← hnn] at hctx hnx hcls hn HSG HMD hn1 HRW
  rw [← hx]
  have HCTX := Lib.hid hctx
  have HNX := Lib.hid hnx
  have HMAP := Lib.hid hmap
  have HCLS := Lib.hid hcls
  have c2 := cells_get hctx.box2 0
  simp at c2
  have l2 := lt_of_block hctx.box2
  obtain ⟨ac, nc, cc, rfl, HNC⟩ := hcls.shape'
  have hnc : nc = n := by rw [HNC.out, tw_length]
  subst hnc
  obtain ⟨gc, rfl, hgc⟩ := hcls.addr (by rw [tw_length]; omega)
  have HVM := Lib.hid (lst_not_map hcls hmap)
  have hmk := run_make_row' (P := Tryd.prog) 120 21 (.int .i32 0) 4 Tryd.underlying120 info32 rfl .i64 .i64 nc (by omega) (by omega)
  clear hctx hnx hmap hcls hnn hx HNC hR hA hIH hB
  obtain ⟨w1, hclr, hown1, hg1⟩ := run_clear Tryd.underlying131 HMAP.out
  have HM1 := Lib.hid hown1
  have HG1 := Lib.hid hg1
  have HC1 := Lib.hid (HCTX.out.grown HMAP.out hg1)
  have c21 := cells_get HC1.out.box2 0
  have c31 := cells_get HC1.out.box3 3
  have l21 := lt_of_block HC1.out.box2
  have l31 := lt_of_block HC1.out.box3
  simp at c21 c31
  obtain ⟨N, hN⟩ : ∃ N, N = w1.heap.size := ⟨_, rfl⟩
  have HWN := Lib.hid (show w.heap.size ≤ N by rw [hN]; exact hg1.size)
  have HBN := Lib.hid (show bm < N by rw [hN]; exact hown1.lt)
  have HL0 := Lib.hid (show Lst (w1.alloc (.cells (madeCells #[Value.int .i32 0] nc) 21)) B 21 (.slice (some ⟨N, 0, none⟩) nc nc) (tw nc (fin A j 0)) by
    have h1 := Lst.made w1 B 21 (.int .i32 0) nc (by have := HBS.out; have := HWN.out; omega) (by unfold maxLen; omega)
    rw [tw_rep, ← hN, tw_congr (S := fin A j 0) (fun i _ => (if_neg (Nat.not_lt_zero i)).symm)] at h1
    exact h1)
  have HM0 := Lib.hid (show (w1.alloc (.cells (madeCells #[Value.int .i32 0] nc) 21)).ownsMap Tryd.prog 134 (plainElem Tryd.prog 21) bm 0 (MD (sig A (cls A j)) 0) from hown1.alloc _)
  have HG0 := Lib.hid (show w.grownBy (w1.alloc (.cells (madeCells #[Value.int .i32 0] nc) 21)) (some bm) from grown_alloc hg1 _)
  clear hown1 hg1
  go_enter Tryd.func79, Tryd.ntmps79
  go_wp2_with fail
  rw [← hN]
  clear hN c2 c21 c31 l21 l31 hclr hmk l2
  go_loopw [25] (fun s25 wr => ∃ s, s ≤ nc ∧ s25 = .int .i64 s ∧ wr.ownsMap Tryd.prog 134 (plainElem Tryd.prog 21) bm s (MD (sig A (cls A j)) s) ∧ Lst wr B 21 (.slice (some ⟨N, 0, none⟩) nc nc) (tw nc (fin A j s)) ∧ w.grownBy wr (some bm)) (fun s25 _ => 1000010 - (intOf s25).toNat)
  case atStart => exact ⟨0, Nat.zero_le _, rfl, HM0.out, HL0.out, HG0.out⟩
  case round =>
    obtain ⟨s, hs, rfl, hown, hlst, hgr⟩ := hrel
    obtain ⟨W0, hW0⟩ : ∃ W0 : World, W0 = wr := ⟨_, rfl⟩
    subst hW0
    have HM := Lib.hid hown
    have HL := Lib.hid hlst
    have HG := Lib.hid hgr
    have HC := Lib.hid (HCTX.out.grown HMAP.out hgr)
    have HS := Lib.hid (HMD.out s hs)
    clear hown hlst hgr HM0 HL0 HG0
    by_cases hlt : s < nc
    · have HCL := Lib.hid (HCLS.out.grown HG.out (fun k e => by cases e; exact HVM.out))
      obtain ⟨V, ⟨a6, b6, o6, cp6, e6, -, haa6, hca6⟩, hrows⟩ := rows_grown HNX.out HG.out hBr
      have hrl : (rows.map ofN).length = nc := by rw [List.length_map, HRW.out.1]
      rw [hrl] at e6 haa6 hca6 hrows
      have e6' : ab = a6 := by injection e6
      subst e6'
      obtain ⟨rfl, -⟩ := haa6 (by omega)
      have n4 := hca6 s hlt
      have hrw := hrows s hlt
      have er : (rows.map ofN).getD s [] = ofN (rows.getD s []) := by
        have : s < rows.length := by rw [HRW.out.1]; exact hlt
        simp [List.getD, this]
      have hrlen := (HRW.out.2 s hlt).1
      rw [er] at hrw
      obtain ⟨row, hrow⟩ : ∃ row, row = rows.getD s [] := ⟨_, rfl⟩
      rw [← hrow] at hrw hrlen
      have HROW := Lib.hid hrow
      have HRLT := Lib.hid (show ∀ q, q < wd → row.getD q 0 < nc from fun q hq => by rw [hrow]; exact (HRW.out.2 s hlt).2 q hq)
      obtain ⟨a8, b8, o8, cp8, e8, -, haa8, hca8⟩ := hrw
      rw [ofN_length, hrlen] at e8 haa8 hca8
      rw [e8] at n4
      have HR8 := Lib.hid (And.intro haa8 hca8)
      have cC := HCL.out.cellOf (i := s) (by rw [tw_length]; exact hlt)
      rw [tw_get] at cC
      have lC := World.block_lt_of_cell? _ _ cC
      obtain ⟨Z, hZ⟩ : ∃ Z, Z = W0.heap.size := ⟨_, rfl⟩
      obtain ⟨y, hy⟩ : ∃ y, y = cls A j s := ⟨_, rfl⟩
      rw [← hy] at cC
      have HY := Lib.hid hy
      have HZ := Lib.hid hZ
      clear hca6 haa6 e6 hrows e8 hca8 haa8 er hrl hrow hy
      go_upto_region 6 with fail
      go_cut [13] (fun v13 wx => v13 = .pointer (some ⟨Z, 0, none⟩) ∧ wx.rowIs Z 134 27 (fun i => .int .i32 ((kc y (row.map (cls A j)) 0 i : Nat) : Int)) ∧ Below Z W0 wx)
      case first =>
        go_wp2_with (first | refine wpList_build27 rfl _ rfl y rfl ?_ | refine wpList_alloc27 rfl rfl ?_ | refine wpList_store27 rfl _ _ rfl y rfl rfl ?_)
        go_meet
        exact ⟨by rw [hZ], by rw [hZ]; exact key_new _ _ _, (Below.refl _ _).alloc (by omega) _⟩
      case rest =>
        obtain ⟨rfl, hk0, hbz⟩ := hcut
        have HK0 := Lib.hid hk0
        have HBZ := Lib.hid hbz
        clear cC n4 lC hk0 hbz hZ
        go_wp2_with fail
        go_loopw [37] (fun s37 wr' => ∃ c, c ≤ wd ∧ s37 = .int .i64 c ∧ wr'.rowIs Z 134 27 (fun i => .int .i32 ((kc y (row.map (cls A j)) c i : Nat) : Int)) ∧ Below Z W0 wr') (fun s37 _ => 27 - (intOf s37).toNat)
        case atStart => exact ⟨0, Nat.zero_le _, rfl, HK0.out, HBZ.out⟩
        case round =>
          obtain ⟨c, hc, rfl, hkr, hbel⟩ := hrel
          have HKR := Lib.hid hkr
          have HBL := Lib.hid hbel
          have HBW := Lib.hid (show Below W0.heap.size W0 wr from by rw [← HZ.out]; exact hbel)
          have hZl := hkr.lt
          clear hkr hbel HK0 HBZ
          by_cases hcl : c < wd
          · have hb8 := HR8.out.1 (by omega)
            obtain ⟨rfl, hb8⟩ := hb8
            have hb8Z : b8 < Z := by have := HM.out.lt; have := HZ.out; omega
            have hrx := HRLT.out c hcl
            have n5 := (HBL.out.cell (p := ⟨b8, o8 + c, none⟩) hb8Z).trans (HR8.out.2 c hcl)
            rw [ofN_get _ (by rw [hrlen]; exact hcl)] at n5
            obtain ⟨t, ht⟩ : ∃ t, t = row.getD c 0 := ⟨_, rfl⟩
            rw [← ht] at n5 hrx
            have hgcZ : gc < Z := by have := HG.out.size; have := HZ.out; omega
            have cT := (HBL.out.cell (p := ⟨gc, t, none⟩) hgcZ).trans (HCL.out.cellOf (i := t) (by rw [tw_length]; exact hrx))
            rw [tw_get] at cT
            obtain ⟨ct, hct⟩ : ∃ ct, ct = cls A j t := ⟨_, rfl⟩
            rw [← hct] at cT
            have cK := HKR.out.cell (show c + 1 < 27 by omega)
            obtain ⟨ok, hok⟩ : ∃ ok, ok = kc y (row.map (cls A j)) c (c + 1) := ⟨_, rfl⟩
            rw [← hok] at cK
            have fK := HKR.out.frozen (c + 1)
            have HCT := Lib.hid (show (row.map (cls A j)).getD c 0 = ct by
              have : c < row.length := by rw [hrlen]; exact hcl
              rw [hct, ht]; simp [List.getD, this])
            clear hct ht hok hb8 hb8Z
            go_wp2_with fail
            go_roundw
            case rel =>
              refine ⟨c + 1, hcl, by go_num, (HKR.out.set (c + 1) _).congr fun i hi => ?_, HBL.out.setCell (Nat.le_refl _) _⟩
              rw [kc_set, HCT.out]
              by_cases e : i = c + 1
              · simp [e]
              · simp [e]
            case measure => simp [intOf]; omega
          · obtain rfl : wd = c := by omega
            have hsg : sig A (cls A j) s = (y, row.map (cls A j)) := by unfold sig; rw [HAA.out, ← HROW.out, ← HY.out]
            have hml : (row.map (cls A j)).length = wd := by rw [List.length_map]; exact hrlen
            have hkl : (sgL (sig A (cls A j) s)).length = 27 := sgL_length (by rw [HSG.out.len s hlt]; exact hw)
            have HKEY : wr.heap[Z]? = some (.cells ((sgL (sig A (cls A j) s)).map (Value.int .i32)).toArray 134 (0, 0)) := by
              have h1 := row_cells HKR.out
              rw [hsg, ← kc_end y (row.map (cls A j)) (by rw [hml]; exact hw), hml]
              exact h1
            have hld := load_key hkl HKEY
            have HKO := Lib.hid (HSG.out.key hlt)
            have HMW := Lib.hid (HM.out.kept (below_none HBW.out) (by simp))
            have HGW := Lib.hid (grown_below HG.out HBW.out)
            have HCW := Lib.hid (HCTX.out.grown HMAP.out HGW.out)
            have HLW := Lib.hid (HL.out.below HBW.out)
            have k2 := cells_get HCW.out.box2 0
            simp at k2
            have lk2 := lt_of_block HCW.out.box2
            have hnum : TidyMath.idx (sig A (cls A j)) (reps (sig A (cls A j)) s) s = cls A (j + 1) s := by
              rw [reps_num (sig A (cls A j)) hlt, HNN.out]; rfl
            obtain ⟨L, hL⟩ : ∃ L, L = (reps (sig A (cls A j)) s).length := ⟨_, rfl⟩
            have hLs : L ≤ s := by rw [hL]; exact reps_le _ _
            obtain ⟨kk, hkk⟩ : ∃ kk, kk = valK (sgL (sig A (cls A j) s)) := ⟨_, rfl⟩
            rw [← hkk] at hld HKO
            clear hsg hml hkl HKEY hkk
            by_cases hkn : TidyMath.idx (sig A (cls A j)) (reps (sig A (cls A j)) s) s < (reps (sig A (cls A j)) s).length
            · have hlook := look_eq HMW.out HKO.out ((TidyMath.idx (sig A (cls A j)) (reps (sig A (cls A j)) s) s : Nat) : Int) true (HS.out.at_ s hlt hkn _) (by rw [HS.out.has s hlt, decide_eq_true hkn])
              have HMD1 := Lib.hid (show MD (sig A (cls A j)) (s + 1) = MD (sig A (cls A j)) s by show (if _ then _ else _) = _; rw [if_pos hkn])
              rw [hnum] at hlook
              obtain ⟨q, hq⟩ : ∃ q, q = cls A (j + 1) s := ⟨_, rfl⟩
              rw [← hq] at hlook
              have HQ := Lib.hid hq
              have cF := HLW.out.cellOf (i := s) (by rw [tw_length]; exact hlt)
              rw [tw_get, show fin A j s s = 0 from if_neg (Nat.lt_irrefl s)] at cF
              have fF := HLW.out.free s
              have lF := World.block_lt_of_cell? _ _ cF
              have HLD := Lib.hid hld
              clear hnum hkn hL hq hld
              go_wp2_with (refine wpList_loadKey rfl _ rfl Z rfl kk HLD.out ?_)
              go_roundw
              case rel =>
                have h1 := HLW.out.set (i := s) (by rw [tw_length]; exact hlt) (.int .i32 (q : Nat))
                rw [fin_set A j nc s q HQ.out] at h1
                refine ⟨s + 1, hlt, by go_num, ?_, h1, grown_setNew HGW.out HWN.out _⟩
                rw [HMD1.out]
                exact (HMW.out.setCell (by show bm ≠ N; have := HBN.out; omega) _).mono (Nat.le_succ s)
              case measure => simp [intOf]; omega
            · have hno : Maps.has (MD (sig A (cls A j)) s) (litK (sgL (sig A (cls A j) s))) = false := by rw [HS.out.has s hlt, decide_eq_false hkn]
              have hlook := look_eq HMW.out HKO.out 0 false (atKey_of_not_has hno _) hno
              have HMD1 := Lib.hid (show MD (sig A (cls A j)) (s + 1) = (MD (sig A (cls A j)) s).put (litK (sgL (sig A (cls A j) s))) (.lit (.int .i32 (L : Nat))) by show (if _ then _ else _) = _; rw [if_neg hkn, hL])
              have hlen := fun ty => HMW.out.len Tryd.underlying131 ty
              rw [HS.out.size, ← hL] at hlen
              have HQ := Lib.hid (show L = cls A (j + 1) s by rw [← hnum, hL]; have := idx_le (sig A (cls A j)) (reps (sig A (cls A j)) s) s; omega)
              obtain ⟨w2, hup, hown2, hg2⟩ := HMW.out.update law Tryd.underlying131 (by unfold maxLen; omega) HKO.out (plainElem_int (a := (L : Int)) underE (by
                have h1 : IntKind.i32.min = -2147483648 := by decide
                have h2 : IntKind.i32.max = 2147483647 := by decide
                simp only [Lit.wf, h1, h2, Bool.and_eq_true, decide_eq_true_eq]
                omega))
              have HO2 := Lib.hid hown2
              have HG2 := Lib.hid (HGW.out.trans hg2)
              have HL2 := Lib.hid (HLW.out.grown hg2 (fun k e => by cases e; exact lst_not_map HLW.out HMW.out))
              have cF := HL2.out.cellOf (i := s) (by rw [tw_length]; exact hlt)
              rw [tw_get, show fin A j s s = 0 from if_neg (Nat.lt_irrefl s)] at cF
              have fF := HL2.out.free s
              have lF := World.block_lt_of_cell? _ _ cF
              have HLD := Lib.hid hld
              clear hnum hkn hL hown2 hg2 hno hld
              go_wp2_with (refine wpList_loadKey rfl _ rfl Z rfl kk HLD.out ?_)
              go_roundw
              case rel =>
                have h1 := HL2.out.set (i := s) (by rw [tw_length]; exact hlt) (.int .i32 (L : Nat))
                rw [fin_set A j nc s L HQ.out] at h1
                refine ⟨s + 1, hlt, by go_num, ?_, h1, grown_setNew HG2.out HWN.out _⟩
                rw [HMD1.out]
                exact HO2.out.setCell (by show bm ≠ N; have := HBN.out; omega) _
              case measure => simp [intOf]; omega
    · obtain rfl : nc = s := by omega
      obtain ⟨C, hC⟩ : ∃ C, C = cn A (j + 1) := ⟨_, rfl⟩
      have hCr : (reps (sig A (cls A j)) nc).length = C := by rw [hC, HNN.out]; rfl
      have hlen := fun ty => HM.out.len Tryd.underlying131 ty
      have hlenD := fun ty => HM.out.drew.len Tryd.underlying131 ty
      rw [HS.out.size, hCr] at hlen hlenD
      have k2 := cells_get HC.out.box2 0
      have k4 := cells_get HC.out.box4 0
      have k5 := cells_get HC.out.box5 0
      simp at k2 k4 k5
      have lk2 := lt_of_block HC.out.box2
      have lk4 := lt_of_block HC.out.box4
      have lk5 := lt_of_block HC.out.box5
      have hC8 : C ≤ 1000000 := by rw [hC]; have := cn_le A (j + 1); have := HNN.out; omega
      have HLE := Lib.hid (show Lst W0 B 21 (.slice (some ⟨N, 0, none⟩) nc nc) (tw nc (cls A (j + 1))) by rw [← fin_all]; exact HL.out)
      have HCC := Lib.hid hC
      have HGD := Lib.hid (grown_below HG.out ((Below.refl _ _).drew))
      have HMO := Lib.hid (show cn A (j + 1) ≤ TidyAuto.most A from cn_mono' A (by omega))
      by_cases e1 : C = x
      · have hjs : j = TidyAuto.stop A := by
          rcases Nat.lt_or_ge j (TidyAuto.stop A) with h | h
          · exact absurd (show cn A (j + 1) = cn A j by rw [← HCC.out, e1, HX.out]) ((stop_stops A).2 j h)
          · omega
        have HJ := Lib.hid hjs
        have HMS := Lib.hid (show TidyAuto.most A = C by rw [HCC.out, hjs]; rfl)
        subst e1
        clear hCr hC hjs
        go_upto_region 19 with fail
        go_region_with fail
        all_goals
          go_wp2_with fail
          refine bodyPost_ret (v := .tuple #[.slice (some ⟨N, 0, none⟩) nc nc, .bool (decide ((C : Int) ≤ (mst : Int)))]) (by simp [results, Tryd.results79, go_sem]) rfl ⟨some ⟨N, 0, none⟩, nc, nc, by rw [HMS.out]; simp, HGD.out, fun _ => by rw [← HJ.out, ← HNN.out]; exact HLE.out⟩
      · have HE1 := Lib.hid e1
        by_cases e2 : mst < C
        · have HMS := Lib.hid (show decide (TidyAuto.most A ≤ mst) = decide ((C : Int) ≤ (mst : Int)) by
            have h1 := HMO.out
            have h2 := HCC.out
            rw [decide_eq_false (by omega), decide_eq_false (by omega)])
          have HMN := Lib.hid (show ¬ TidyAuto.most A ≤ mst by have h1 := HMO.out; have h2 := HCC.out; omega)
          have d1 : ((C : Int) == (x : Int)) = false := by simp; omega
          have d2 : decide ((mst : Int) < (C : Int)) = true := by simp; omega
          clear hCr hC
          go_upto_region 19 with fail
          go_region_with fail
          all_goals
            go_wp2_with fail
            refine bodyPost_ret (v := .tuple #[.slice (some ⟨N, 0, none⟩) nc nc, .bool (decide ((C : Int) ≤ (mst : Int)))]) (by simp [results, Tryd.results79, go_sem]) rfl ⟨some ⟨N, 0, none⟩, nc, nc, by rw [HMS.out], HGD.out, fun h => absurd h HMN.out⟩
        · have d1 : ((C : Int) == (x : Int)) = false := by simp; omega
          have d2 : decide ((mst : Int) < (C : Int)) = false := by simp; omega
          have HJ := Lib.hid (show j < TidyAuto.stop A by
            rcases Nat.lt_or_ge j (TidyAuto.stop A) with h | h
            · exact h
            · have h3 : j = TidyAuto.stop A := by omega
              exact absurd (show C = x by rw [HCC.out, HX.out, h3]; exact (stop_stops A).1) HE1.out)
          have HREC := Lib.hid (HIH.out HJ.out W0 (.slice (some ⟨N, 0, none⟩) nc nc) B Br bm b2 b3 b4 b5 k nc va ab cb (MD (sig A (cls A j)) nc) (by rw [← HNN.out]; exact HC.out) (by rw [← HNN.out]; exact rows_grown HNX.out HG.out hBr) hBr HM.out (by rw [← HNN.out]; exact HLE.out) (by have := HBS.out; have := HG.out.size; omega))
          rw [← HCC.out] at HREC
          clear hCr hC
          go_wp2_with (go_at_call 79; refine HREC.out.mono ?_; rintro e w3 ⟨av3, nv3, cv3, rfl, hg3, hl3⟩; have HG3 := Lib.hid (HG.out.trans hg3); have HL3 := Lib.hid hl3; clear hg3 hl3)
          refine bodyPost_ret (v := .tuple #[.slice av3 nv3 cv3, .bool (decide (TidyAuto.most A ≤ mst))]) (by simp [results, Tryd.results79, go_sem]) rfl ⟨av3, nv3, cv3, rfl, HG3.out, HL3.out⟩
theorem refine (A : Au) (rows : List (List Nat)) (wd : Nat) (hR : RowsOk rows A.n wd) (hA : ∀ s, A.nx s = rows.getD s []) (hw : wd ≤ 26) (hn : A.n ≤ 1000000) (hn1 : 1 ≤ A.n) (mst : Nat) (hmst : mst ≤ 1000000) :
    ∀ d j, j + d = TidyAuto.stop A → Con A rows mst j
  | 0, j, h => step A rows wd hR hA hw hn hn1 mst hmst j (by omega) (fun h' => by omega)
  | d + 1, j, h => step A rows wd hR hA hw hn hn1 mst hmst j (by omega) (fun _ => refine A rows wd hR hA hw hn hn1 mst hmst d (j + 1) (by omega))
end Go.Proofs.YtaimealknkhfbaaDoor.ImplClasses
/- Lists of states that a function meets by their classes; what the program's function that meets a state does.
   Conditions: stated at each theorem. -/
namespace Go.Proofs.YtaimealknkhfbaaDoor.States
set_option linter.unusedVariables false
set_option maxRecDepth 20000
set_option linter.unusedSimpArgs false
open Go.RowKit Mem Copy Rel Heap Bld TidyMath TidyClass TidyAuto TidyNum Places ImplClasses MarkRow

def numT (κ : Nat → Nat) (P : List Nat) (q : Nat) : Int := numC κ P q + 1
theorem numT_nil (κ : Nat → Nat) (q : Nat) : numT κ [] q = 0 := by unfold numT; rw [numC_none]; rfl
theorem numT_at (κ : Nat → Nat) (P : List Nat) (x : Nat) : numT κ P (κ x) = if idx κ P x < P.length then ((idx κ P x + 1 : Nat) : Int) else 0 := by
  unfold numT; rw [numC_at]; split <;> simp
theorem numT_meet {κ : Nat → Nat} {P : List Nat} {x : Nat} (hn : ¬ idx κ P x < P.length) (q : Nat) : numT κ (P ++ [x]) q = if q = κ x then ((P.length : Int) + 1) else numT κ P q := by
  have hm : TidyMath.meet κ P x = P ++ [x] := by unfold TidyMath.meet; rw [if_neg hn]
  unfold numT
  rw [← hm, numC_meet hn]; split <;> rfl

/-- What has been met, in memory: a variable with the table, one with the classes, one with the list; and other lists beside. -/
structure MS (w : World) (B Bc b9 bc b10 g n m : Nat) (vC vS : Value) (κ : Nat → Nat) (P : List Nat) (others : List (Value × List Value)) : Prop where
  box9 : w.heap[b9]? = some (.cells #[.slice (some ⟨g, 0, none⟩) n n] 52 (0, 0))
  boxC : w.heap[bc]? = some (.cells #[vC] 120 (0, 0))
  box10 : w.heap[b10]? = some (.cells #[vS] 52 (0, 0))
  own : Own w B 2 ((.slice (some ⟨g, 0, none⟩) n n, tv n (numT κ P)) :: (vS, iv P) :: others)
  cls : Lst w Bc 21 vC (tw m κ)
  b10B : B ≤ b10
  b9n : b9 ≠ b10

theorem MS.drewN {w : World} {B Bc b9 bc b10 g n m : Nat} {vC vS : Value} {κ : Nat → Nat} {P : List Nat} {others : List (Value × List Value)} (h : MS w B Bc b9 bc b10 g n m vC vS κ P others) (q : Nat) : MS (w.drewN q) B Bc b9 bc b10 g n m vC vS κ P others :=
  ⟨h.box9, h.boxC, h.box10, h.own.drewN q, h.cls, h.b10B, h.b9n⟩
theorem MS.below {w w' : World} {B Bc b9 bc b10 g n m : Nat} {vC vS : Value} {κ : Nat → Nat} {P : List Nat} {others : List (Value × List Value)} (h : MS w B Bc b9 bc b10 g n m vC vS κ P others) (hb : Below w.heap.size w w') : MS w' B Bc b9 bc b10 g n m vC vS κ P others :=
  ⟨by rw [hb.block _ (lt_of_block h.box9)]; exact h.box9, by rw [hb.block _ (lt_of_block h.boxC)]; exact h.boxC, by rw [hb.block _ (lt_of_block h.box10)]; exact h.box10, h.own.below hb, h.cls.below hb, h.b10B, h.b9n⟩

structure MSStep (w w5 w6 : World) (B Bc b9 bc b10 g n m : Nat) (vC vS v5 : Value) (κ : Nat → Nat) (P : List Nat) (others : List (Value × List Value)) (x : Nat) : Prop where
  box : w5.heap[b10]? = some (.cells #[vS] 52 (0, 0))
  cell : w5.cell? ⟨g, κ x, none⟩ = some (.int .i64 0)
  free : w5.frozen? ⟨g, κ x, none⟩ = false
  ms : MS w6 B Bc b9 bc b10 g n m vC v5 κ (P ++ [x]) others
  frame : MetFrame w w6 b10 g vS v5

theorem MS.new {w w5 : World} {B Bc b9 bc b10 g n m : Nat} {vC vS v5 : Value} {κ : Nat → Nat} {P : List Nat} {others : List (Value × List Value)} {x : Nat} (h : MS w B Bc b9 bc b10 g n m vC vS κ P others) (hx : κ x < n) (hidx : ¬ idx κ P x < P.length)
    (hp : Pushed w w5 B 2 vS v5 (iv P) (.int .i64 (x : Nat))) : MSStep w w5 ((w5.setCell ⟨b10, 0, none⟩ v5).setCell ⟨g, κ x, none⟩ (.int .i64 ((P.length : Int) + 1))) B Bc b9 bc b10 g n m vC vS v5 κ P others x := by
  have hnum := Own.get [] _ h.own
  have hst := Own.get [_] _ h.own
  have h10g : b10 ≠ g := fun e => block_apart hnum h.box10 (by decide) (by rw [e]; rfl)
  have h9g : b9 ≠ g := fun e => block_apart hnum h.box9 (by decide) (by rw [e]; rfl)
  have hcg : bc ≠ g := fun e => block_apart hnum h.boxC (by decide) (by rw [e]; rfl)
  have hs10 : vS.ownBlock ≠ some b10 := block_apart hst h.box10 (by decide)
  have hs9 : vS.ownBlock ≠ some b9 := block_apart hst h.box9 (by decide)
  have hsc : vS.ownBlock ≠ some bc := block_apart hst h.boxC (by decide)
  have hc10 : bc ≠ b10 := fun e => by have h1 := h.boxC; rw [e, h.box10] at h1; cases h1
  have hk : ∀ k, k < w.heap.size → vS.ownBlock ≠ some k → w5.heap[k]? = w.heap[k]? := fun k h1 h2 => hp.grow.block k h1 (fun e => h2 e.symm)
  have l10 := lt_of_block h.box10
  have b10' := (hk b10 l10 hs10).trans h.box10
  have o5 := Own.push [_] others h.own hp
  have c5 := Own.get [] _ o5
  have g1 : (w5.setCell ⟨b10, 0, none⟩ v5).heap[b10]? = some (.cells #[v5] 52 (0, 0)) := cells_set b10' 0 v5
  have o6 := o5.setOther (a := ⟨b10, 0, none⟩) b10' (by decide) v5
  have o7 := Own.set [] _ (i := κ x) o6 (by rw [tv_length]; exact hx) (.int .i64 ((P.length : Int) + 1))
  rw [tv_set, tv_congr (S := numT κ (P ++ [x])) (fun i _ => (numT_meet hidx i).symm), iv_push] at o7
  have hcell := c5.cellOf (i := κ x) (by rw [tv_length]; exact hx)
  rw [tv_get, numT_at, if_neg hidx] at hcell
  have hw : ∀ k, k < w.heap.size → k ≠ b10 → k ≠ g → vS.ownBlock ≠ some k → ((w5.setCell ⟨b10, 0, none⟩ v5).setCell ⟨g, κ x, none⟩ (.int .i64 ((P.length : Int) + 1))).heap[k]? = w.heap[k]? := fun k h1 h2 h3 h4 => by
    rw [Below.heap_setCell _ _ _ _ h3, Below.heap_setCell _ _ _ _ h2, hk k h1 h4]
  refine ⟨b10', hcell, c5.free _, ⟨?_, ?_, ?_, ?_, ?_, h.b10B, h.b9n⟩, ⟨?_, ?_, ?_, ?_, hw, ?_⟩⟩
  · rw [hw b9 (lt_of_block h.box9) h.b9n h9g hs9]; exact h.box9
  · rw [hw bc (lt_of_block h.boxC) hc10 hcg hsc]; exact h.boxC
  · rw [Below.heap_setCell _ _ _ _ h10g]; exact g1
  · exact o7
  · exact h.cls.of_block fun k hk' => hw k (h.cls.lt hk') (fun e => block_apart h.cls h.box10 (by decide) (by rw [← e]; exact hk')) (fun e => Lst.apart hnum h.cls (by decide) g rfl (by rw [← e]; exact hk')) (fun e => Lst.apart hst h.cls (by decide) k e hk')
  · exact hp.grow.os
  · exact hp.grow.tape
  · exact hp.grow.output
  · have := hp.grow.size; simp only [World.setCell, Array.size_modify] at *; omega
  · rcases hp.at_ with e | ⟨q, e, hq⟩
    · exact .inl e
    · exact .inr ⟨q, e, hq⟩

theorem MetFrame.refl (w : World) (b5 g : Nat) (v : Value) : MetFrame w w b5 g v v := ⟨rfl, rfl, rfl, Nat.le_refl _, fun _ _ _ _ _ => rfl, .inl rfl⟩

set_option maxHeartbeats 4000000 in
theorem meetS (x : Nat) (w : World) (B Bc b9 bc b10 g n m : Nat) (vC vS : Value) (κ : Nat → Nat) (P : List Nat) (others : List (Value × List Value)) (h : MS w B Bc b9 bc b10 g n m vC vS κ P others) (hB : B ≤ w.heap.size) (hx : x < m) (hκ : κ x < n) (hn : n ≤ 10000000) (hm : m ≤ 10000000) (hP : P.length ≤ 10000000) :
    Calls Tryd.prog 73 #[.int .i64 x, .pointer (some ⟨b9, 0, none⟩), .pointer (some ⟨bc, 0, none⟩), .pointer (some ⟨b10, 0, none⟩)] w fun e w' =>
      ∃ vS', e = .returned (.int .i64 ((idx κ P x : Nat) : Int)) ∧ MS w' B Bc b9 bc b10 g n m vC vS' κ (TidyMath.meet κ P x) others ∧ MetFrame w w' b10 g vS vS' := by
  have HM := Lib.hid h
  have HB := Lib.hid hB
  have c9 := cells_get h.box9 0
  have cc := cells_get h.boxC 0
  simp at c9 cc
  have l9 := lt_of_block h.box9
  have lc := lt_of_block h.boxC
  obtain ⟨ac, nc, cpc, rfl, HNC⟩ := h.cls.shape'
  have hnc : nc = m := by rw [HNC.out, tw_length]
  subst hnc
  obtain ⟨gc, rfl, hgc⟩ := h.cls.addr (by rw [tw_length]; omega)
  have cx := h.cls.cellOf (i := x) (by rw [tw_length]; exact hx)
  rw [tw_get] at cx
  obtain ⟨y, hy⟩ : ∃ y, y = κ x := ⟨_, rfl⟩
  rw [← hy] at cx hκ
  have HY := Lib.hid hy
  clear h HNC hB hy
  go_enter Tryd.func73, Tryd.ntmps73
  go_upto_region 1 with fail
  go_cut [6] (fun v wx => v = .pointer (some ⟨g, y, none⟩) ∧ ∃ q, wx = w.drewN q)
  case first =>
    go_quiet (fail)
    go_wp2_with fail
    go_meet
    exact ⟨rfl, _, rfl⟩
  case rest =>
    obtain ⟨rfl, q, rfl⟩ := hcut
    have HF := Lib.hid (fun (w6 : World) (v6 : Value) (hf : MetFrame (w.drewN q) w6 b10 g vS v6) => (show MetFrame w w6 b10 g vS v6 from ⟨hf.os, hf.tape, hf.output, hf.size, hf.block, hf.at_⟩))
    have hM1 := HM.out.drewN q
    have hB1 : B ≤ (w.drewN q).heap.size := HB.out
    generalize w.drewN q = wq at hM1 hB1 HF ⊢
    have HM1 := Lib.hid hM1
    have HB1 := Lib.hid hB1
    have c10 := cells_get hM1.box10 0
    simp at c10
    have l10 := lt_of_block hM1.box10
    have f10 := cells_free hM1.box10 0
    have cN := (Own.get [] _ hM1.own).cellOf (i := y) (by rw [tv_length]; exact hκ)
    rw [tv_get, HY.out, numT_at, ← HY.out] at cN
    have lN := World.block_lt_of_cell? _ _ cN
    have fN := (Own.get [] _ hM1.own).free y
    obtain ⟨d, hd⟩ : ∃ d, d = idx κ P x := ⟨_, rfl⟩
    have HD := Lib.hid hd
    rw [← hd] at cN
    have hdP := idx_le κ P x
    rw [← hd] at hdP
    obtain ⟨aS, ns, cps, rfl, HNS⟩ := (Own.get [_] _ hM1.own).shape'
    have hns : ns = P.length := by rw [HNS.out, iv_length]
    subst hns
    clear hM1 hB1 hd c9 cc l9 lc cx
    by_cases hlt : d < P.length
    · rw [if_pos hlt] at cN
      have HMM := Lib.hid (show TidyMath.meet κ P x = P by unfold TidyMath.meet; rw [if_pos (by rw [← HD.out]; exact hlt)])
      have hz : (((d + 1 : Nat) : Int) == 0) = false := by simp; omega
      obtain ⟨z, hzz⟩ : ∃ z, z = d + 1 := ⟨_, rfl⟩
      have HZ := Lib.hid hzz
      rw [← hzz] at cN hz
      clear hzz
      have hz1 : 1 ≤ z := by have := HZ.out; omega
      have hz2 : z ≤ 10000001 := by have := HZ.out; omega
      go_wp2_with fail
      go_ret
      exact ⟨by rw [HZ.out, ← HD.out]; simp, _, by rw [HMM.out]; exact HM1.out, HF.out _ _ (MetFrame.refl _ _ _ _)⟩
    · rw [if_neg hlt] at cN
      have HDE := Lib.hid (show d = P.length by omega)
      have HMM := Lib.hid (show TidyMath.meet κ P x = P ++ [x] by unfold TidyMath.meet; rw [if_neg (by rw [← HD.out]; exact hlt)])
      have h5g : b10 ≠ g := fun e => block_apart (Own.get [] _ HM1.out.own) HM1.out.box10 (by decide) (by rw [e]; rfl)
      have h5g' : g ≠ b10 := Ne.symm h5g
      have HNW := Lib.hid (fun w5 v5 hp => HM1.out.new (w5 := w5) (v5 := v5) (x := x) (by rw [← HY.out]; exact hκ) (by rw [← HD.out]; exact hlt) hp)
      rw [← HY.out] at HNW
      have HLL := Lib.hid (show (iv P).length ≤ 100000000 by rw [iv_length]; omega)
      go_wp2_with (at_builtin; go_loud (refine wpList_push rfl _ _ 52 rfl 2 (.int .i64 0) 8 Tryd.underlying52 info2 (by decide) (by decide) B (.slice aS P.length cps) (iv P) (.int .i64 (x : Nat)) (Own.get [_] _ HM1.out.own) HB1.out rfl HLL.out rfl _ rfl rfl ?_; intro v5 w5 hp5; have HS := Lib.hid (HNW.out _ _ hp5); obtain ⟨a5, n5, cp5, rfl, HN5⟩ := hp5.lst.shape'; have hn5 := (show n5 = P.length + 1 by rw [HN5.out, List.length_append, iv_length]; rfl); subst hn5; have q5 := cells_get HS.out.box 0; have z5 := cells_free HS.out.box 0; have l5 := lt_of_block HS.out.box; have c6 := HS.out.cell; have f6 := HS.out.free; rw [← HY.out] at c6 f6; have l6 := World.block_lt_of_cell? _ _ c6; simp at q5; clear hp5))
      go_ret
      exact ⟨by rw [← HD.out, HDE.out]; simp, _, by rw [HMM.out]; exact HS.out.ms, HF.out _ _ HS.out.frame⟩
end Go.Proofs.YtaimealknkhfbaaDoor.States
