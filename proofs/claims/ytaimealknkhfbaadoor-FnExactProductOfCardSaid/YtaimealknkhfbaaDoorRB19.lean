
/- What the program's function that makes the automaton of right lists of columns hands back.
   Conditions: the relation has the form that is asked, and at most 100000 states. -/
import Derived.Test.YtaimealknkhfbaaDoorRB16
import Derived.Test.YtaimealknkhfbaaDoorRB18
import Derived.Test.YtaimealknkhfbaaDoorRB8
namespace Go.Proofs.YtaimealknkhfbaaDoor.ImplRight
set_option linter.unusedVariables false
set_option linter.unusedSimpArgs false
open Go.RowKit Mem Copy Rel Valid Heap Columns Pads TidyMath TidyClass TidyAuto TidyRight SpecFiner SpecRight Bld Places

theorem rowP_length (l : L) (p : Nat × Nat) : (rowP l p).length = wide l.k := by unfold rowP; rw [List.length_map, succR_length]
theorem rowP_no {l : L} {p : Nat × Nat} {c : Nat} (hc : c < wide l.k) (h : fol p.2 (pd l.k c) = false) : (rowP l p).getD c 0 = 0 := by
  have hg := succR_get l p hc
  rw [h, if_neg (by decide)] at hg
  unfold rowP
  rw [List.getD, List.getElem?_map, List.getElem?_eq_getElem (by rw [succR_length]; exact hc), hg]; rfl
theorem rowP_yes {l : L} (hl : l.Ok) {i c : Nat} (hib : i < (places l i).length) (hc : c < wide l.k) (h : fol (places l i)[i].2 (pd l.k c) = true) {q : Nat × Nat} (hq : q = ((l.nx.getD (places l i)[i].1 []).getD c 0, pd l.k c)) :
    (rowP l (places l i)[i]).getD c 0 = idx id (TidyClass.part id (succR l) (l.start, 0) i c) q + 1 := by
  have hg := succR_get l (places l i)[i] hc
  rw [h, if_pos rfl, ← hq] at hg
  have hcl : c < (succR l (places l i)[i]).length := by rw [succR_length]; exact hc
  unfold rowP
  rw [List.getD, List.getElem?_map, List.getElem?_eq_getElem hcl, hg]
  show num l q + 1 = _
  rw [part_num id (succR l) (l.start, 0) (places_len hl) hib hcl hg]; rfl
/-- A row of which the first columns have been written. -/
def rowT (l : L) (p : Nat × Nat) (c i : Nat) : Int := if i < c then (((rowP l p).getD i 0 : Nat) : Int) else 0
theorem rowT_zero (l : L) (p : Nat × Nat) (i : Nat) : rowT l p 0 i = 0 := if_neg (Nat.not_lt_zero i)
theorem rowT_end (l : L) (p : Nat × Nat) : tv (wide l.k) (rowT l p (wide l.k)) = (ofN (rowP l p)).map (Value.int .i64) := by
  apply List.ext_getElem
  · simp [tv, ofN, rowP_length]
  · intro i h1 h2
    have hi : i < wide l.k := by simpa [tv] using h1
    rw [tv_get _ _ h1]
    unfold rowT
    rw [if_pos hi]
    have hr : i < (rowP l p).length := by rw [rowP_length]; exact hi
    simp [ofN, List.getD, hr]
theorem rowT_set (l : L) (p : Nat × Nat) (n c : Nat) (x : Int) (hx : x = (((rowP l p).getD c 0 : Nat) : Int)) : (tv n (rowT l p c)).set c (.int .i64 x) = tv n (rowT l p (c + 1)) := by
  rw [tv_set]
  refine tv_congr fun i _ => ?_
  unfold rowT
  by_cases e : i = c
  · subst e; rw [if_pos rfl, if_pos (Nat.lt_succ_self i), hx]
  · have : (i < c + 1) = (i < c) := by apply propext; constructor <;> intro h <;> omega
    simp only [if_neg e, this]
theorem rowT_keep (l : L) (p : Nat × Nat) (n c : Nat) (hx : (rowP l p).getD c 0 = 0) : tv n (rowT l p c) = tv n (rowT l p (c + 1)) := by
  refine tv_congr fun i _ => ?_
  unfold rowT
  by_cases e : i = c
  · subst e; rw [if_neg (Nat.lt_irrefl i), if_pos (Nat.lt_succ_self i), hx]; rfl
  · have : (i < c + 1) = (i < c) := by apply propext; constructor <;> intro h <;> omega
    simp only [this]

theorem MetFrame.below {w w' : World} {B b4 b5 g n : Nat} {v v' : Value} {P : List (Nat × Nat)} (h : MetFrame w w' b5 g v v') (hm : Places.Met w B b4 b5 g n v P) (hB : B ≤ w.heap.size) : Below B w w' :=
  ⟨h.os, h.tape, h.output, h.size, fun k hk => h.block k (by omega) (by have := hm.b5B; omega) (fun e => by have := hm.tab.ge (k := g) rfl; omega) (fun e => by have := hm.lst.ge e; omega)⟩

/-- What is put together beside what is met. -/
theorem Bld.met {w w' : World} {B ob b4 b5 g n : Nat} {tapes start : Int} {va vn v v' : Value} {P Q : List (Nat × Nat)} (l1 l2 : List (Value × List Value)) {items : List (Value × List Value)} {accs : List Value}
    (h : Bld w B ob tapes start va vn (l1 ++ (.slice (some ⟨g, 0, none⟩) n n, tv n (numP P)) :: l2) items accs) (hm : Places.Met w B b4 b5 g n v P) (hm' : Places.Met w' B b4 b5 g n v' Q) (hf : MetFrame w w' b5 g v v') :
    Bld w' B ob tapes start va vn (l1 ++ (.slice (some ⟨g, 0, none⟩) n n, tv n (numP Q)) :: l2) items accs := by
  have ho : Own w B 2 (l1 ++ (.slice (some ⟨g, 0, none⟩) n n, tv n (numP P)) :: (l2 ++ items)) := by have := h.own; rw [List.append_assoc] at this; exact this
  have hp := pairwise_from (fun a b => own_symm) ho.apart
  have hother : ∀ {t : TypeId} {u : Value} {xs : List Value}, Lst w B t u xs → t ≠ 127 → t ≠ 128 → u.ownBlock ≠ some g → Lst w' B t u xs := fun hl ht ht' hg =>
    hl.of_block fun k hk => hf.block k (hl.lt hk) (fun e => block_apart hl hm.box5 ht' (by rw [← e]; exact hk)) (fun e => hg (by rw [← e]; exact hk)) (hm.lst.not_lst hl ht k hk)
  refine ⟨?_, ?_, ?_, ?_, h.obB⟩
  · rw [List.append_assoc]
    refine ⟨fun q hq => ?_, pairwise_mid (fun a b => own_symm) ho.apart fun z hz hxz => hxz⟩
    have hq' : q ∈ l1 ++ (l2 ++ items) ∨ q = (.slice (some ⟨g, 0, none⟩) n n, tv n (numP Q)) := by
      rcases List.mem_append.1 hq with hq | hq
      · exact .inl (List.mem_append_left _ hq)
      · rcases List.mem_cons.1 hq with rfl | hq
        · exact .inr rfl
        · exact .inl (List.mem_append_right _ hq)
    rcases hq' with hq' | rfl
    · have hmi : q ∈ l1 ++ (Value.slice (some ⟨g, 0, none⟩) n n, tv n (numP P)) :: (l2 ++ items) := by
        rcases List.mem_append.1 hq' with hq' | hq'
        · exact List.mem_append_left _ hq'
        · exact List.mem_append_right _ (List.mem_cons_of_mem _ hq')
      exact hother (ho.lst q hmi) (by decide) (by decide) (hp q hq' g rfl)
    · exact hm'.tab
  · exact hother h.acc (by decide) (by decide) (hm.tab.apart h.acc (by decide) g rfl)
  · exact hother h.nxt (by decide) (by decide) (hm.tab.apart h.nxt (by decide) g rfl)
  · rw [hf.block ob h.lt (fun e => by have h1 := h.at_; rw [e, hm.box5] at h1; cases h1) (fun e => block_apart hm.tab h.at_ (by decide) (by rw [e]; rfl)) (hm.lst.not_block h.at_ (by decide))]
    exact h.at_

theorem pads_at (N : Nat) (k : Nat) (h1 : 1 ≤ k) (h3 : k ≤ 3) (w : World) (hN : w.heap.size = N) :
    Calls Tryd.prog 76 #[.int .i64 k] w fun e w' => e = .returned (.slice (some ⟨N, 0, none⟩) (wide k) (wide k)) ∧ w'.rowIs N 2 (wide k) (fun c => .int .i64 (pd k c : Nat)) ∧ Below N w w' := by
  subst hN; exact pads k h1 h3 w

/-- The first two blocks of a call: its argument's, and its answer's. -/
abbrev K0 (w : World) (x : Array Value) (W : World) : Prop := Below (w.heap.size + 2) ((w.alloc (.cells x 27)).alloc (.cells #[Value.int .i64 0, .int .i64 0, .slice none 0 0, .slice none 0 0] 27)) W
theorem K0.box {w W : World} {x : Array Value} (h : K0 w x W) : W.heap[w.heap.size]? = some (.cells x 27 (0, 0)) := by
  rw [Below.block h _ (by omega), Below.heap_alloc _ _ _ (by rw [size_alloc']; omega)]; exact heap_alloc_new _ _
theorem K0.res {w W : World} {x : Array Value} (h : K0 w x W) : W.heap[w.heap.size + 1]? = some (.cells #[Value.int .i64 0, .int .i64 0, .slice none 0 0, .slice none 0 0] 27 (0, 0)) := by
  rw [Below.block h _ (by omega)]
  have := heap_alloc_new (w.alloc (.cells x 27)) (.cells #[Value.int .i64 0, .int .i64 0, .slice none 0 0, .slice none 0 0] 27)
  rwa [size_alloc'] at this
theorem K0.base {w W : World} {x : Array Value} (h : K0 w x W) : Below w.heap.size w W :=
  ((Below.refl _ _).alloc (Nat.le_refl _) _).alloc (by rw [size_alloc']; omega) _ |>.trans (Below.mono h (by omega))
theorem K0.size {w W : World} {x : Array Value} (h : K0 w x W) : w.heap.size + 2 ≤ W.heap.size := by
  have := Below.size h
  rw [size_alloc', size_alloc'] at this; exact this

theorem numP_nil (i : Nat) : numP [] i = 0 := by simp [numP, TidyMath.idx]
/-- Nothing has been met yet. -/
theorem met0 (w2 : World) (M n8 : Nat) (hM : w2.heap.size = M) (hn8 : n8 ≤ 800000) :
    Places.Met ((((w2.alloc (.cells (madeCells #[Value.int .i64 0] n8) 2)).alloc (.cells #[.slice (some ⟨M, 0, none⟩) n8 n8] 52)).alloc (.cells #[Value.int .i64 0, .int .i64 0] 127)).alloc (.cells #[.slice (some ⟨M + 1 + 1, 0, none⟩) 1 1] 128))
      M (M + 1) (M + 1 + 1 + 1) M n8 (.slice (some ⟨M + 1 + 1, 0, none⟩) 1 1) [] := by
  have s1 : (w2.alloc (.cells (madeCells #[Value.int .i64 0] n8) 2)).heap.size = M + 1 := by rw [size_alloc', hM]
  have s2 : ((w2.alloc (.cells (madeCells #[Value.int .i64 0] n8) 2)).alloc (.cells #[.slice (some ⟨M, 0, none⟩) n8 n8] 52)).heap.size = M + 1 + 1 := by rw [size_alloc', s1]
  have s3 : (((w2.alloc (.cells (madeCells #[Value.int .i64 0] n8) 2)).alloc (.cells #[.slice (some ⟨M, 0, none⟩) n8 n8] 52)).alloc (.cells #[Value.int .i64 0, .int .i64 0] 127)).heap.size = M + 1 + 1 + 1 := by rw [size_alloc', s2]
  refine ⟨?_, ?_, ?_, ?_, by omega, by omega⟩
  · rw [Below.heap_alloc _ _ _ (by omega), Below.heap_alloc _ _ _ (by omega), ← s1]; exact heap_alloc_new _ _
  · conv => lhs; rw [← s3]
    exact heap_alloc_new _ _
  · have h1 := Lst.made w2 M 2 (.int .i64 0) n8 (by omega) (by unfold maxLen; omega)
    rw [tv_rep, hM, tv_congr (S := numP []) (fun i _ => (numP_nil i).symm)] at h1
    exact ((h1.alloc _).alloc _).alloc _
  · refine ⟨rfl, .inr ⟨M + 1 + 1, 1, #[.int .i64 0, .int .i64 0], rfl, by omega, ?_, by decide, by unfold maxLen; omega, rfl, rfl⟩⟩
    rw [Below.heap_alloc _ _ _ (by omega), ← s2]; exact heap_alloc_new _ _

/-- The struct of the answer, laid behind or ahead of the first place. -/
theorem bld_new1 {w6 : World} {M b4 b5 n8 : Nat} {v' : Value} {P : List (Nat × Nat)} {k : Nat} (hm : Places.Met w6 M b4 b5 M n8 v' P) (hM : M ≤ w6.heap.size) :
    Bld (w6.alloc (.cells #[.int .i64 k, .int .i64 1, .slice none 0 0, .slice none 0 0] 27)) M w6.heap.size k 1 (.slice none 0 0) (.slice none 0 0) [(.slice (some ⟨M, 0, none⟩) n8 n8, tv n8 (numP P))] [] [] :=
  ⟨Own.add (Own.nil _ _ _) (hm.tab.alloc _) (fun p hp => by cases hp), Lst.nil _ _ _, Lst.nil _ _ _, heap_alloc_new _ _, hM⟩
theorem bld_new2 {w6 : World} {M b4 b5 n8 ob : Nat} {v' : Value} {P : List (Nat × Nat)} {k : Nat} (hm : Places.Met w6 M b4 b5 M n8 v' P) (hM : M ≤ ob) (hob : ob ≠ M)
    (hO : w6.heap[ob]? = some (.cells #[Value.int .i64 0, .int .i64 0, .slice none 0 0, .slice none 0 0] 27 (0, 0))) :
    Bld ((((w6.setCell ⟨ob, 0, none⟩ (.int .i64 k)).setCell ⟨ob, 1, none⟩ (.int .i64 1)).setCell ⟨ob, 2, none⟩ (.slice none 0 0)).setCell ⟨ob, 3, none⟩ (.slice none 0 0)) M ob k 1 (.slice none 0 0) (.slice none 0 0) [(.slice (some ⟨M, 0, none⟩) n8 n8, tv n8 (numP P))] [] [] ∧
    Places.Met ((((w6.setCell ⟨ob, 0, none⟩ (.int .i64 k)).setCell ⟨ob, 1, none⟩ (.int .i64 1)).setCell ⟨ob, 2, none⟩ (.slice none 0 0)).setCell ⟨ob, 3, none⟩ (.slice none 0 0)) M b4 b5 M n8 v' P ∧
    Below M w6 ((((w6.setCell ⟨ob, 0, none⟩ (.int .i64 k)).setCell ⟨ob, 1, none⟩ (.int .i64 1)).setCell ⟨ob, 2, none⟩ (.slice none 0 0)).setCell ⟨ob, 3, none⟩ (.slice none 0 0)) := by
  have p0 := cells_set hO 0 (.int .i64 k)
  have p1 := cells_set p0 1 (.int .i64 1)
  have p2 := cells_set p1 2 (Value.slice none 0 0)
  have p3 := cells_set p2 3 (Value.slice none 0 0)
  have m0 := hm.setOther (a := ⟨ob, 0, none⟩) hO (by decide) (by decide) hob (by decide) (.int .i64 k)
  have m1 := m0.setOther (a := ⟨ob, 1, none⟩) p0 (by decide) (by decide) hob (by decide) (.int .i64 1)
  have m2 := m1.setOther (a := ⟨ob, 2, none⟩) p1 (by decide) (by decide) hob (by decide) (.slice none 0 0)
  have m3 := m2.setOther (a := ⟨ob, 3, none⟩) p2 (by decide) (by decide) hob (by decide) (.slice none 0 0)
  refine ⟨⟨Own.add (Own.nil _ _ _) m3.tab (fun p hp => by cases hp), Lst.nil _ _ _, Lst.nil _ _ _, ?_, hM⟩, m3, ?_⟩
  · simpa using p3
  · exact (((Below.setCell (Below.refl _ _) (by exact hM) _).setCell (by exact hM) _).setCell (by exact hM) _).setCell (by exact hM) _

/-- The first truth value, and the first row. -/
theorem bld_acc1 {w : World} {M ob : Nat} {k : Nat} {ints : List (Value × List Value)} (h : Bld w M ob k 1 (.slice none 0 0) (.slice none 0 0) ints [] []) (hM : M ≤ w.heap.size) :
    Bld ((w.setCell ⟨ob, 2, none⟩ (.slice (some ⟨w.heap.size, 0, none⟩) 1 1)).alloc (.cells #[Value.bool false] 4)) M ob k 1 (.slice (some ⟨w.heap.size, 0, none⟩) 1 1) (.slice none 0 0) ints [] [.bool false] := by
  have hs : (w.setCell ⟨ob, 2, none⟩ (.slice (some ⟨w.heap.size, 0, none⟩) 1 1)).heap.size = w.heap.size := by simp [World.setCell]
  have h1 := Lst.one (w.setCell ⟨ob, 2, none⟩ (.slice (some ⟨w.heap.size, 0, none⟩) 1 1)) M 4 (.bool false) (by rw [hs]; exact hM)
  rw [hs] at h1
  refine ⟨(h.own.setOther (a := ⟨ob, 2, none⟩) h.at_ (by decide) _).alloc _, h1, Lst.nil _ _ _, ?_, h.obB⟩
  rw [Below.heap_alloc _ _ _ (by rw [hs]; exact h.lt)]
  exact cells_set h.at_ 2 _
theorem bld_next1 {w : World} {M ob wd : Nat} {k : Nat} {va : Value} {ints : List (Value × List Value)} {accs : List Value} (h : Bld w M ob k 1 va (.slice none 0 0) ints [] accs) (hM : M ≤ w.heap.size) (hw : wd ≤ 26) :
    Bld (((w.setCell ⟨ob, 3, none⟩ (.slice (some ⟨w.heap.size + 1, 0, none⟩) 1 1)).alloc (.cells (madeCells #[Value.int .i64 0] wd) 2)).alloc (.cells #[Value.slice (some ⟨w.heap.size, 0, none⟩) wd wd] 52))
      M ob k 1 va (.slice (some ⟨w.heap.size + 1, 0, none⟩) 1 1) ints [(.slice (some ⟨w.heap.size, 0, none⟩) wd wd, tv wd fun _ => 0)] accs := by
  have hs : (w.setCell ⟨ob, 3, none⟩ (.slice (some ⟨w.heap.size + 1, 0, none⟩) 1 1)).heap.size = w.heap.size := by simp [World.setCell]
  have hs1 : ((w.setCell ⟨ob, 3, none⟩ (.slice (some ⟨w.heap.size + 1, 0, none⟩) 1 1)).alloc (.cells (madeCells #[Value.int .i64 0] wd) 2)).heap.size = w.heap.size + 1 := by rw [size_alloc', hs]
  have h1 := Lst.made (w.setCell ⟨ob, 3, none⟩ (.slice (some ⟨w.heap.size + 1, 0, none⟩) 1 1)) M 2 (.int .i64 0) wd (by rw [hs]; exact hM) (by unfold maxLen; omega)
  rw [tv_rep, hs] at h1
  have h2 := Lst.one ((w.setCell ⟨ob, 3, none⟩ (.slice (some ⟨w.heap.size + 1, 0, none⟩) 1 1)).alloc (.cells (madeCells #[Value.int .i64 0] wd) 2)) M 52 (.slice (some ⟨w.heap.size, 0, none⟩) wd wd) (by rw [hs1]; omega)
  rw [hs1] at h2
  have ho : Own w M 2 ints := by have := h.own; rwa [List.append_nil] at this
  have ho1 := (ho.setOther (a := ⟨ob, 3, none⟩) h.at_ (by decide) (.slice (some ⟨w.heap.size + 1, 0, none⟩) 1 1)).addNew ((Below.refl _ _).alloc (Nat.le_refl _) (.cells (madeCells #[Value.int .i64 0] wd) 2)) h1 (fun q hq => by rw [hs]; cases hq; exact Nat.le_refl _)
  refine ⟨Bld.Own.perm (ho1.alloc _) (List.perm_append_singleton _ _).symm, (h.acc.setOther (block_apart h.acc h.at_ (by decide)) _).alloc _ |>.alloc _, h2, ?_, h.obB⟩
  rw [Below.heap_alloc _ _ _ (by rw [hs1]; have := h.lt; omega), Below.heap_alloc _ _ _ (by rw [hs]; exact h.lt)]
  exact cells_set h.at_ 3 _

theorem lst_block {w : World} {B : Nat} {t : TypeId} {g n cap : Nat} {xs : List Value} (h : Lst w B t (.slice (some ⟨g, 0, none⟩) n cap) xs) : ∃ cur, w.heap[g]? = some (.cells cur t (0, 0)) := by
  rcases h.2 with ⟨e, -⟩ | ⟨g', cap', cur, hv, hbg, hh, -⟩
  · cases e
  · cases hv; exact ⟨cur, hh⟩
/-- A store into another row of numbers. -/
theorem Met.setRow {w : World} {B b4 b5 g n q m cap : Nat} {v : Value} {P : List (Nat × Nat)} {xs : List Value} (h : Places.Met w B b4 b5 g n v P) (hl : Lst w B 2 (.slice (some ⟨q, 0, none⟩) m cap) xs) (hq : q ≠ g) (i : Nat) (u : Value) : Places.Met (w.setCell ⟨q, i, none⟩ u) B b4 b5 g n v P := by
  obtain ⟨cur, hc⟩ := lst_block hl
  exact h.setOther (a := ⟨q, i, none⟩) hc (by decide) (by decide) hq (by decide) u
/-- The place that is looked at stays. -/
theorem MetFrame.keep {w w' : World} {B b4 b5 g n z : Nat} {v v' : Value} {P : List (Nat × Nat)} {c : Array Value} (h : MetFrame w w' b5 g v v') (hm : Places.Met w B b4 b5 g n v P) (hz : w.heap[z]? = some (.cells c 127 (0, 0))) (hv : v.ownBlock ≠ some z) :
    w'.heap[z]? = some (.cells c 127 (0, 0)) ∧ v'.ownBlock ≠ some z := by
  have hl := lt_of_block hz
  refine ⟨?_, ?_⟩
  · rw [h.block z hl (fun e => by have h1 := hm.box5; rw [← e, hz] at h1; cases h1) (fun e => by obtain ⟨cur, h1⟩ := lst_block hm.tab; rw [← e, hz] at h1; cases h1) hv]
    exact hz
  · rcases h.at_ with e | ⟨q, e, hq⟩
    · rw [e]; exact hv
    · rw [e]; intro e2; injection e2 with e2; omega
theorem met_acc {w w4 : World} {M ob b4 b5 g n : Nat} {tapes start : Int} {va vn v v4 u : Value} {P : List (Nat × Nat)} {ints items : List (Value × List Value)} {accs : List Value} (h : Bld w M ob tapes start va vn ints items accs) (hm : Places.Met w M b4 b5 g n v P) (hp : Pushed w w4 M 4 va v4 accs u) :
    Places.Met (w4.setCell ⟨ob, 2, none⟩ v4) M b4 b5 g n v P :=
  (hm.grown h.acc hp.grow (block_apart h.acc hm.box4 (by decide)) (by decide) (hm.tab.apart h.acc (by decide) g rfl) (by decide)).setOther (a := ⟨ob, 2, none⟩) (h.obAcc hp) (by decide) (by decide) (fun e => block_apart hm.tab h.at_ (by decide) (by rw [← e]; rfl)) (by decide) v4
theorem met_next {w w4 : World} {M ob b4 b5 g n : Nat} {tapes start : Int} {va vn v v4 u : Value} {P : List (Nat × Nat)} {ints items : List (Value × List Value)} {accs : List Value} (h : Bld w M ob tapes start va vn ints items accs) (hm : Places.Met w M b4 b5 g n v P) (hv : vn.ownBlock ≠ some b4) (hp : Pushed w w4 M 52 vn v4 (items.map Prod.fst) u) :
    Places.Met (w4.setCell ⟨ob, 3, none⟩ v4) M b4 b5 g n v P ∧ v4.ownBlock ≠ some b4 := by
  have h1 : w4.heap[ob]? = some (.cells #[.int .i64 tapes, .int .i64 start, va, vn] 27 (0, 0)) := by
    rw [hp.grow.block ob h.lt fun e => block_apart h.nxt h.at_ (by decide) e.symm]; exact h.at_
  refine ⟨(hm.grown h.nxt hp.grow hv (by decide) (hm.tab.apart h.nxt (by decide) g rfl) (by decide)).setOther (a := ⟨ob, 3, none⟩) h1 (by decide) (by decide) (fun e => block_apart hm.tab h.at_ (by decide) (by rw [← e]; rfl)) (by decide) v4, ?_⟩
  have hl := lt_of_block hm.box4
  rcases hp.at_ with e | ⟨q, e, hq⟩
  · rw [e]; exact hv
  · rw [e]; intro e2; injection e2 with e2; omega
theorem places_end {l : L} (hl : l.Ok) {a : Nat} (h : (places l a).length ≤ a) : places l a = F l := by
  have := end_len id (succR l) (l.start, 0) (places_len hl) (i := a) h
  exact this.symm

set_option maxRecDepth 100000 in
set_option maxHeartbeats 8000000 in
theorem rightPart (l : L) (hl : l.Ok) (v : Value) (w : World) (B : Nat) (h : RelAt w B v (relOf l)) (hB : B ≤ w.heap.size) (hn : l.acc.length ≤ 100000) :
    Calls Tryd.prog 71 #[v] w fun e w' => ∃ va vn, e = .returned (.agg #[.int .i64 l.k, .int .i64 1, va, vn]) ∧ Built w' w.heap.size va vn (accP l) ((nxP l).map ofN) ∧ Below w.heap.size w w' := by
  obtain ⟨va, vn, rfl, ha, hnx⟩ := h
  have HA := Lib.hid (fun W (hb : Below w.heap.size w W) => ha.below hb hB)
  have HN := Lib.hid (fun W (hb : Below w.heap.size w W) => hnx.below hb hB)
  obtain ⟨aa, ba, oa, ca, rfl, hma, -, -⟩ := ha
  obtain ⟨-, ⟨ab, bb, ob, cb, rfl, hmb, -, -⟩, -⟩ := hnx
  have k0 := hl.k0
  have k3 := hl.k3
  have hst := hl.st
  have hw26 := wide_cases k0 k3
  simp only [relOf] at HA HN hma hmb ⊢
  rw [List.length_map] at hmb HN ⊢
  rw [hl.len] at hmb HN ⊢
  have HPADS := Lib.hid (fun N W hN => pads_at N l.k k0 k3 W hN)
  obtain ⟨k, hk⟩ : ∃ k, k = l.k := ⟨_, rfl⟩
  obtain ⟨n, hnn⟩ : ∃ n, n = l.acc.length := ⟨_, rfl⟩
  obtain ⟨st, hs⟩ : ∃ st, st = l.start := ⟨_, rfl⟩
  obtain ⟨wd, hwd⟩ : ∃ wd, wd = wide l.k := ⟨_, rfl⟩
  rw [← hnn] at hma hmb hn hst HA HN ⊢
  rw [← hs] at hst ⊢
  rw [← hwd] at hw26 HPADS
  rw [← hk] at k0 k3 HPADS ⊢
  have HKK := Lib.hid hk
  have HNN := Lib.hid hnn
  have HST := Lib.hid hs
  have HWD := Lib.hid hwd
  clear hnn hk hs hwd
  have hmf : ∀ (fn : Fn) (first cap : Array Value) (w : World), (Instr.makeFunc fn first cap).run Tryd.prog w = .ok (.func fn first cap) w := fun _ _ _ _ => rfl
  obtain ⟨n8, hn8⟩ : ∃ n8, n8 = n * 8 := ⟨_, rfl⟩
  have hmul : (n : Int) * 8 = (n8 : Int) := by rw [hn8]; omega
  have hn8b : n8 ≤ 800000 := by omega
  have HN8 := Lib.hid hn8
  clear hn8
  go_enter Tryd.func71, Tryd.ntmps71
  go_wp2_with fail
  refine (HPADS.out (w.heap.size + 2) _ (by simp)).mono ?_
  rintro e w2 ⟨rfl, hrow, hb2⟩
  have hk2 : K0 w #[.int .i64 k, .int .i64 st, .slice aa n ca, .slice ab n cb] w2 := hb2
  have HK2 := Lib.hid hk2
  have HROW := Lib.hid hrow
  have q1 := cells_get hk2.box 1
  have q3 := cells_get hk2.box 3
  have q0 := cells_get hk2.box 0
  simp at q0 q1 q3
  have hlb := lt_of_block hk2.box
  have hmk := run_make_row' (P := Tryd.prog) 52 2 (.int .i64 0) 8 Tryd.underlying52 info2 rfl .i64 .i64 n8 (by omega) (by omega)
  obtain ⟨M, hM⟩ : ∃ M, M = w2.heap.size := ⟨_, rfl⟩
  clear hb2 hk2 hrow
  have HMET := Lib.hid (met0 w2 M n8 hM.symm hn8b)
  have HBEL := Lib.hid (show Below M w2 ((((w2.alloc (.cells (madeCells #[Value.int .i64 0] n8) 2)).alloc (.cells #[.slice (some ⟨M, 0, none⟩) n8 n8] 52)).alloc (.cells #[Value.int .i64 0, .int .i64 0] 127)).alloc (.cells #[.slice (some ⟨M + 1 + 1, 0, none⟩) 1 1] 128)) by
    refine Below.alloc (Below.alloc (Below.alloc (Below.alloc (Below.refl _ _) ?_ _) ?_ _) ?_ _) ?_ _
    all_goals (first | omega | (simp only [size_alloc']; omega)))
  go_upto_region 5 with fail
  rw [← hM]
  obtain ⟨w5, hw5⟩ : ∃ w5, w5 = ((((w2.alloc (.cells (madeCells #[Value.int .i64 0] n8) 2)).alloc (.cells #[.slice (some ⟨M, 0, none⟩) n8 n8] 52)).alloc (.cells #[Value.int .i64 0, .int .i64 0] 127)).alloc (.cells #[.slice (some ⟨M + 1 + 1, 0, none⟩) 1 1] 128)) := ⟨_, rfl⟩
  rw [← hw5] at HMET HBEL ⊢
  have HMS := Lib.hid (show M ≤ w5.heap.size by have := HBEL.out.size; omega)
  have HKM := Lib.hid (show w.heap.size + 2 < M by
    have h1 := HROW.out.lt
    omega)
  have HM := Lib.hid hM
  have HMS0 := Lib.hid (show M ≤ w2.heap.size by omega)
  rw [← HBEL.out.cell (p := ⟨w.heap.size, 0, none⟩) (by have := HKM.out; show w.heap.size < M; omega)] at q0
  rw [← HBEL.out.cell (p := ⟨w.heap.size, 1, none⟩) (by have := HKM.out; show w.heap.size < M; omega)] at q1
  have hlb5 : w.heap.size < w5.heap.size := by have := HMS.out; have := HKM.out; omega
  have HLB := Lib.hid (show (⟨w.heap.size, 0, none⟩ : Addr).block < M by have := HKM.out; show w.heap.size < M; omega)
  have HL5 := Lib.hid (show w.heap.size < w5.drew.heap.size from hlb5)
  clear hw5 hM q3 hlb hmk hmul hmf
  go_cut [7] (fun v7 wx => ∃ ob vP, v7 = .pointer (some ⟨ob, 0, none⟩) ∧ Bld wx M ob k 1 (.slice none 0 0) (.slice none 0 0) [(.slice (some ⟨M, 0, none⟩) n8 n8, tv n8 (numP (places l 0)))] [] [] ∧ Places.Met wx M (M + 1) (M + 1 + 1 + 1) M n8 vP (places l 0) ∧ Below M w2 wx)
  case first =>
    -- {fast
    have HCALL := Lib.hid (fun (wc : World) (v0 : Value) (hm0 : Places.Met wc M (M + 1) (M + 1 + 1 + 1) M n8 v0 []) (hs0 : M ≤ wc.heap.size) =>
      show Calls Tryd.prog 77 #[.agg #[.int .i64 (st : Nat), .int .i64 0], .pointer (some ⟨M + 1, 0, none⟩), .pointer (some ⟨M + 1 + 1 + 1, 0, none⟩)] wc fun e w' =>
        ∃ v', e = .returned (.int .i64 1) ∧ Places.Met w' M (M + 1) (M + 1 + 1 + 1) M n8 v' (places l 0) ∧ MetFrame wc w' (M + 1 + 1 + 1) M v0 v' from
      (meet (st, 0) wc M (M + 1) (M + 1 + 1 + 1) M n8 v0 [] hm0 hs0 (by show st < 100000000; omega) (by show 0 < 8; omega) (by unfold Places.code; have := HN8.out; show st * 8 + 0 < n8; omega) (by omega) (by decide)).mono (by
        rintro e w6 ⟨v', rfl, hm, hf⟩
        refine ⟨v', by simp [TidyMath.idx], ?_, hf⟩
        rw [show places l 0 = TidyMath.meet id [] (st, 0) by rw [show places l 0 = [(l.start, 0)] from rfl, HST.out]; simp [TidyMath.meet, TidyMath.idx]]
        exact hm))
    have HC1 := Lib.hid (HCALL.out w5.drew _ (HMET.out.drewN 1) HMS.out)
    have HC2 := Lib.hid (HCALL.out ((w5.alloc (.cells #[Value.int .i64 0, .int .i64 0, .slice none 0 0, .slice none 0 0] 27)).drew) _ ((HMET.out.alloc _).drewN 1) (by show M ≤ (w5.alloc _).heap.size; rw [size_alloc']; exact Nat.le_succ_of_le HMS.out))
    have HF1 := Lib.hid (fun w6 v' (hf : MetFrame w5.drew w6 (M + 1 + 1 + 1) M (.slice (some ⟨M + 1 + 1, 0, none⟩) 1 1) v') => MetFrame.below hf (HMET.out.drewN 1) HMS.out)
    have HF2 := Lib.hid (fun w6 v' (hf : MetFrame ((w5.alloc (.cells #[Value.int .i64 0, .int .i64 0, .slice none 0 0, .slice none 0 0] 27)).drew) w6 (M + 1 + 1 + 1) M (.slice (some ⟨M + 1 + 1, 0, none⟩) 1 1) v') =>
      And.intro (MetFrame.below hf ((HMET.out.alloc _).drewN 1) (by show M ≤ (w5.alloc _).heap.size; rw [size_alloc']; exact Nat.le_succ_of_le HMS.out))
        (show w6.heap[w5.heap.size]? = some (.cells #[Value.int .i64 0, .int .i64 0, .slice none 0 0, .slice none 0 0] 27 (0, 0)) from
          (hf.block w5.heap.size (by show w5.heap.size < (w5.alloc _).heap.size; rw [size_alloc']; omega) (by have := lt_of_block HMET.out.box5; omega) (by have := lt_of_block HMET.out.box5; omega) (fun e => by have := HMET.out.lst.lt e; omega)).trans (heap_alloc_new w5 _)))
    have HL6 := Lib.hid (show w.heap.size < ((w5.alloc (.cells #[Value.int .i64 0, .int .i64 0, .slice none 0 0, .slice none 0 0] 27)).drew).heap.size from by
      show _ < (w5.alloc _).heap.size
      rw [size_alloc']; exact Nat.lt_succ_of_lt hlb5)
    have HQ6 := Lib.hid (show ((w5.alloc (.cells #[Value.int .i64 0, .int .i64 0, .slice none 0 0, .slice none 0 0] 27)).drew).cell? ⟨w.heap.size, 0, none⟩ = some (.int .i64 k) from
      (World.cell?_of_block (w := w5) (w' := w5.alloc _) (Below.heap_alloc _ _ _ hlb5)).trans q0)
    go_region_with (first
      | (go_at_call 77; refine HC1.out.mono ?_; rintro e w6 ⟨v', rfl, hm, hf⟩; have HM6 := Lib.hid hm; have HB6 := Lib.hid (HF1.out _ _ hf); have q6 := (HB6.out.cell (p := ⟨w.heap.size, 0, none⟩) (HLB.out)).trans q0; have hl6 := Nat.lt_of_lt_of_le HL5.out HB6.out.size; clear hm hf)
      | (go_at_call 77; refine HC2.out.mono ?_; rintro e w6 ⟨v', rfl, hm, hf⟩; have HM6 := Lib.hid hm; have HB7 := Lib.hid (HF2.out _ _ hf).1; have HO7 := (HF2.out _ _ hf).2; have q6 := (HB7.out.cell (p := ⟨w.heap.size, 0, none⟩) (HLB.out)).trans HQ6.out; have hl6 := Nat.lt_of_lt_of_le HL6.out (HB7.out.size); have r0 := cells_get HO7 0; have r1 := cells_get HO7 1; have r2 := cells_get HO7 2; have r3 := cells_get HO7 3; have z0 := cells_free HO7 0; have z1 := cells_free HO7 1; have z2 := cells_free HO7 2; have z3 := cells_free HO7 3; have hlo := lt_of_block HO7; simp at r0 r1 r2 r3; have HO := Lib.hid HO7; clear hm hf HO7))
    all_goals
      go_wp2_with fail
      go_meet
    all_goals (first
      | exact ⟨_, v', rfl, bld_new1 HM6.out (Nat.le_trans HMS.out HB6.out.size), HM6.out.alloc _, (HBEL.out.drew.trans HB6.out).alloc (Nat.le_trans HMS.out HB6.out.size) _⟩
      | (have hn := bld_new2 (k := k) HM6.out HMS.out (by have := lt_of_block HMET.out.box5; omega) HO.out; exact ⟨_, v', rfl, hn.1, hn.2.1, ((((HBEL.out.alloc (by have h1 := HM.out; have h2 := HMS.out; omega) _).drew).trans HB7.out).trans hn.2.2)⟩))
    -- }fast
  case rest =>
    obtain ⟨ob, vP, rfl, hbld, hmet, hbel⟩ := hcut
    have HBLD := Lib.hid hbld
    have HMT := Lib.hid hmet
    have HBL := Lib.hid hbel
    have k2' := hbld.c2
    have hfz2 := cells_free hbld.at_ 2
    have hZl := hbld.lt
    have hmk := run_make_row' (P := Tryd.prog) 52 2 (.int .i64 0) 8 Tryd.underlying52 info2 rfl .i64 .i64 wd (by omega) (by omega)
    have hMc := Nat.le_trans HMS0.out hbel.size
    have HB8 := Lib.hid (bld_acc1 hbld hMc)
    have HM8 := Lib.hid ((hmet.setOther (a := ⟨ob, 2, none⟩) hbld.at_ (by decide) (by decide) (block_apart hmet.tab hbld.at_ (by decide) |> fun h => fun e => h (by rw [← e]; rfl)) (by decide) (.slice (some ⟨wc.heap.size, 0, none⟩) 1 1)).alloc (.cells #[Value.bool false] 4))
    have HL8 := Lib.hid (show Below M w2 ((wc.setCell ⟨ob, 2, none⟩ (.slice (some ⟨wc.heap.size, 0, none⟩) 1 1)).alloc (.cells #[Value.bool false] 4)) from (hbel.setCell hbld.obB _).alloc (by simpa [World.setCell] using hMc) _)
    clear hbld hmet hbel HMET HBEL q0 q1 hlb5 HL5 HBLD HMT HBL
    go_upto_region 7 with fail
    obtain ⟨w8, hw8⟩ : ∃ w8, w8 = ((wc.setCell ⟨ob, 2, none⟩ (.slice (some ⟨wc.heap.size, 0, none⟩) 1 1)).alloc (.cells #[Value.bool false] 4)) := ⟨_, rfl⟩
    rw [← hw8] at HB8 HM8 HL8 ⊢
    obtain ⟨S8, hS8⟩ : ∃ S8, S8 = wc.heap.size := ⟨_, rfl⟩
    rw [← hS8] at HB8 ⊢
    have k3' := HB8.out.c3
    have hfz3 := cells_free HB8.out.at_ 3
    have hZ8 := HB8.out.lt
    have hM8 := Nat.le_trans HMS0.out HL8.out.size
    have HB9 := Lib.hid (bld_next1 (wd := wd) HB8.out hM8 (by omega))
    have HM9 := Lib.hid (((HM8.out.setOther (a := ⟨ob, 3, none⟩) HB8.out.at_ (by decide) (by decide) (block_apart HM8.out.tab HB8.out.at_ (by decide) |> fun h => fun e => h (by rw [← e]; rfl)) (by decide) (.slice (some ⟨w8.heap.size + 1, 0, none⟩) 1 1)).alloc (.cells (madeCells #[Value.int .i64 0] wd) 2)).alloc (.cells #[Value.slice (some ⟨w8.heap.size, 0, none⟩) wd wd] 52))
    have HL9 := Lib.hid (show Below M w2 (((w8.setCell ⟨ob, 3, none⟩ (.slice (some ⟨w8.heap.size + 1, 0, none⟩) 1 1)).alloc (.cells (madeCells #[Value.int .i64 0] wd) 2)).alloc (.cells #[Value.slice (some ⟨w8.heap.size, 0, none⟩) wd wd] 52)) from
      ((HL8.out.setCell HB8.out.obB _).alloc (by simpa [World.setCell] using hM8) _).alloc (by rw [size_alloc']; simp [World.setCell]; omega) _)
    clear hw8 k2' hfz2 hZl hMc
    go_wp2_with fail
    obtain ⟨w9, hw9⟩ : ∃ w9, w9 = (((w8.setCell ⟨ob, 3, none⟩ (.slice (some ⟨w8.heap.size + 1, 0, none⟩) 1 1)).alloc (.cells (madeCells #[Value.int .i64 0] wd) 2)).alloc (.cells #[Value.slice (some ⟨w8.heap.size, 0, none⟩) wd wd] 52)) := ⟨_, rfl⟩
    have HV9 := Lib.hid (show (Value.slice (some ⟨w8.heap.size + 1, 0, none⟩) 1 1).ownBlock ≠ some (M + 1) from by
      intro e; injection e with e; have e : w8.heap.size + 1 = M + 1 := e; have h1 := lt_of_block HM8.out.box5; omega)
    rw [← hw9] at HB9 HM9 HL9 ⊢
    clear hw9 k3' hfz3 hZ8 hM8 HB8 HM8 HL8 hmk
    have HPB := Lib.hid (places_len hl)
    go_loopw [8, 9, 10, 11, 12, 54] (fun s8 _ _ _ _ _ wr => ∃ (a : Nat) (v va vn : Value) (items : List (Value × List Value)), a ≤ (places l a).length ∧ s8 = .int .i64 ((a + 1 : Nat) : Int) ∧
      Bld wr M ob k 1 va vn [(.slice (some ⟨M, 0, none⟩) n8 n8, tv n8 (numP (places l a)))] items (.bool false :: ((F l).take a).map fun p => .bool (l.acc.getD p.1 false)) ∧
      items.map Prod.snd = (tv wd fun _ => 0) :: ((F l).take a).map (fun p => tv wd (rowT l p wd)) ∧ Places.Met wr M (M + 1) (M + 1 + 1 + 1) M n8 v (places l a) ∧ Below M w2 wr ∧ vn.ownBlock ≠ some (M + 1)) (fun s8 _ _ _ _ _ _ => 800010 - (intOf s8).toNat)
    case atStart => exact ⟨0, _, _, _, _, Nat.zero_le _, rfl, HB9.out, rfl, HM9.out, HL9.out, HV9.out⟩
    case round =>
      obtain ⟨a, v, va, vn, items, ha, rfl, hbld, hit, hmet, hbel, hvn⟩ := hrel
      have HVN := Lib.hid hvn
      have HD := Lib.hid hbld
      have HI := Lib.hid hit
      have HMT := Lib.hid hmet
      have HB2 := Lib.hid hbel
      obtain ⟨len, hlen⟩ : ∃ len, len = (places l a).length := ⟨_, rfl⟩
      have HLEN := Lib.hid hlen
      rw [← hlen] at ha
      obtain ⟨i, hi⟩ : ∃ i, i = a + 1 := ⟨_, rfl⟩
      have HII := Lib.hid hi
      rw [← hi]
      have HLN8 := Lib.hid (show len ≤ 800000 by rw [hlen]; have h1 := HPB.out a; have h2 := HNN.out; omega)
      have hln8 := HLN8.out
      obtain ⟨g5, n5, cp5, rfl, HN5, HG5⟩ := hmet.lst.shape' (Nat.succ_pos _)
      have hn5 : n5 = len + 1 := by rw [HN5.out, List.length_cons, hlen]
      subst hn5
      have c5 := cells_get hmet.box5 0
      simp at c5
      have hl5 := lt_of_block hmet.box5
      clear hbld hit hmet hbel hlen hvn HB9 HM9 HL9 HV9
      by_cases hlt : a < len
      · have hib : a < (places l a).length := by rw [← HLEN.out]; exact hlt
        have hiF : a < (F l).length := Nat.lt_of_lt_of_le hib (end_prefix id (succR l) (l.start, 0) HPB.out a).length_le
        have hgF : (places l a)[a] = (F l)[a] := (prefix_get (end_prefix id (succR l) (l.start, 0) HPB.out a) hib).symm
        have hPD : D l (places l a)[a] := places_D hl _ _ (List.getElem_mem hib)
        obtain ⟨g5', cp5', cur, e5, hM5, hh5, hcur⟩ := HMT.out.lst.block (Nat.succ_pos _)
        have e5' : g5' = g5 := by injection e5 with e5; injection e5 with e5; injection e5 with e5; exact e5.symm
        subst e5'
        have hc5 := hcur i (by rw [List.length_cons, ← HLEN.out]; omega)
        have hget : ((0, 0) :: places l a)[i]'(by rw [List.length_cons, ← HLEN.out]; omega) = (places l a)[a] := by simp only [hi, List.getElem_cons_succ]
        rw [hget] at hc5
        obtain ⟨P, hP⟩ : ∃ P, P = (places l a)[a] := ⟨_, rfl⟩
        rw [← hP] at hc5 hPD
        obtain ⟨s, e⟩ := P
        have HPP := Lib.hid hP
        have HGF := Lib.hid hgF
        have HIB := Lib.hid hib
        have HIF := Lib.hid hiF
        have hsn : s < n := by have := hPD.1; rw [HNN.out]; exact this
        have he8 : e < 8 := Nat.lt_of_lt_of_le hPD.2 (pow_le8 hl.k3)
        have cS := cells_get hh5 (i * 2)
        have cE := cells_get hh5 (i * 2 + 1)
        rw [hc5.1] at cS
        rw [hc5.2] at cE
        have hl55 := lt_of_block hh5
        have hmk := run_make_row' (P := Tryd.prog) 52 2 (.int .i64 0) 8 Tryd.underlying52 info2 rfl .i64 .i64 wd (by omega) (by omega)
        obtain ⟨Z, hZ⟩ : ∃ Z, Z = wr.heap.size := ⟨_, rfl⟩
        have HZ := Lib.hid hZ
        have hMr := Nat.le_trans HMS0.out HB2.out.size
        have HBI := Lib.hid (show Bld ((wr.alloc (.cells #[.int .i64 s, .int .i64 e] 127)).alloc (.cells (madeCells #[Value.int .i64 0] wd) 2)) M ob k 1 va vn
            ((.slice (some ⟨Z + 1, 0, none⟩) wd wd, tv wd (rowT l (s, e) 0)) :: [(.slice (some ⟨M, 0, none⟩) n8 n8, tv n8 (numP (TidyClass.part id (succR l) (l.start, 0) a 0)))]) items (.bool false :: ((F l).take a).map fun p => .bool (l.acc.getD p.1 false)) by
          rw [part_zero]
          have h1 := Lst.made (wr.alloc (.cells #[.int .i64 s, .int .i64 e] 127)) M 2 (.int .i64 0) wd (by rw [size_alloc']; omega) (by unfold maxLen; omega)
          rw [tv_rep, size_alloc', ← hZ, tv_congr (S := rowT l (s, e) 0) (fun i _ => (rowT_zero l (s, e) i).symm)] at h1
          exact (HD.out.alloc _).addInt ((Below.refl _ _).alloc (Nat.le_refl _) _) h1 (fun q hq => by rw [size_alloc', ← hZ]; cases hq; exact Nat.le_refl _))
        have HMI := Lib.hid (show Places.Met ((wr.alloc (.cells #[.int .i64 s, .int .i64 e] 127)).alloc (.cells (madeCells #[Value.int .i64 0] wd) 2)) M (M + 1) (M + 1 + 1 + 1) M n8 (.slice (some ⟨g5', 0, none⟩) (len + 1) cp5) (TidyClass.part id (succR l) (l.start, 0) a 0) by
          rw [part_zero]; exact (HMT.out.alloc _).alloc _)
        have HLI := Lib.hid (show Below M w2 ((wr.alloc (.cells #[.int .i64 s, .int .i64 e] 127)).alloc (.cells (madeCells #[Value.int .i64 0] wd) 2)) from (HB2.out.alloc hMr _).alloc (by rw [size_alloc']; omega) _)
        have HPI := Lib.hid (show ((wr.alloc (.cells #[.int .i64 s, .int .i64 e] 127)).alloc (.cells (madeCells #[Value.int .i64 0] wd) 2)).heap[Z]? = some (.cells #[.int .i64 s, .int .i64 e] 127 (0, 0)) by
          rw [Below.heap_alloc _ _ _ (by rw [size_alloc']; omega), hZ]; exact heap_alloc_new _ _)
        have HVI := Lib.hid (show (Value.slice (some ⟨g5', 0, none⟩) (len + 1) cp5).ownBlock ≠ some Z by
          intro e; injection e with e; have e : g5' = Z := e; omega)
        clear hc5 hcur hh5 hget hP hgF hPD e5 HN5 HG5
        have hil : i < len + 1 := by omega
        clear hi
        go_wp2_with fail
        rw [← hZ]
        clear hZ cS cE c5 hl5 hl55 hmk
        go_loopw [11, 12, 54] (fun _ _ s54 wr' => ∃ (c : Nat) (v : Value), c ≤ wd ∧ s54 = .int .i64 c ∧
          Bld wr' M ob k 1 va vn ((.slice (some ⟨Z + 1, 0, none⟩) wd wd, tv wd (rowT l (s, e) c)) :: [(.slice (some ⟨M, 0, none⟩) n8 n8, tv n8 (numP (TidyClass.part id (succR l) (l.start, 0) a c)))]) items (.bool false :: ((F l).take a).map fun p => .bool (l.acc.getD p.1 false)) ∧
          Places.Met wr' M (M + 1) (M + 1 + 1 + 1) M n8 v (TidyClass.part id (succR l) (l.start, 0) a c) ∧ wr'.heap[Z]? = some (.cells #[.int .i64 s, .int .i64 e] 127 (0, 0)) ∧ v.ownBlock ≠ some Z ∧ Below M w2 wr') (fun _ _ s54 _ => 27 - (intOf s54).toNat)
        case atStart => exact ⟨0, _, Nat.zero_le _, rfl, HBI.out, HMI.out, HPI.out, HVI.out, HLI.out⟩
        case round =>
          obtain ⟨c, v, hc, rfl, hbld, hmet, hpl, hvz, hbel⟩ := hrel
          have HE := Lib.hid hbld
          have HM3 := Lib.hid hmet
          have HPL := Lib.hid hpl
          have HVZ := Lib.hid hvz
          have HB3 := Lib.hid hbel
          have hlZ := lt_of_block hpl
          have pS := cells_get hpl 0
          have pE := cells_get hpl 1
          simp at pS pE
          have hKM := HKM.out
          have HKB := Lib.hid (fun o => HB3.out.cell (p := ⟨w.heap.size, o, none⟩) HLB.out)
          have hlb := Nat.lt_of_lt_of_le (show w.heap.size < M by omega) (Nat.le_trans HMS0.out HB3.out.size)
          by_cases hcl : c < wd
          · have hpc : wr.cell? ⟨w.heap.size + 2, c, none⟩ = some (.int .i64 ((pd k c : Nat) : Int)) :=
              (HB3.out.cell (p := ⟨w.heap.size + 2, c, none⟩) hKM).trans (HROW.out.cell (show c < wd from hcl))
            have hp8 : pd k c < 8 := pd_lt8 k3 (by omega)
            have hlb2 := Nat.lt_of_lt_of_le hKM (Nat.le_trans HMS0.out HB3.out.size)
            obtain ⟨p, hp⟩ : ∃ p, p = pd k c := ⟨_, rfl⟩
            rw [← hp] at hpc hp8
            have HPC := Lib.hid (show p = pd l.k c by rw [hp, HKK.out])
            have HFOL := Lib.hid (fun W => Pads.mayFollow e p he8 hp8 W)
            obtain ⟨f, hf⟩ : ∃ f, f = fol e p := ⟨_, rfl⟩
            rw [← hf] at HFOL
            have HF := Lib.hid hf
            have hciw : c < wide l.k := by rw [← HWD.out]; exact hcl
            clear hbld hmet hpl hvz hbel hp hf HBI HMI HLI HPI HVI
            cases f with
            | false =>
              have HNO := Lib.hid (part_no HIB.out hciw (by rw [← HPP.out, ← HPC.out]; exact HF.out.symm)).1
              have HRN := Lib.hid (rowP_no (p := (s, e)) hciw (by rw [← HPC.out]; exact HF.out.symm))
              go_wp2_with (go_at_call 78; refine (HFOL.out _).mono ?_; rintro e w' ⟨rfl, rfl⟩)
              go_roundw
              case rel => exact ⟨c + 1, _, hcl, by go_num, by rw [HNO.out, ← rowT_keep l (s, e) wd c HRN.out]; exact HE.out, by rw [HNO.out]; exact HM3.out, HPL.out, HVZ.out, HB3.out⟩
              case measure => simp [intOf]; omega
            | true =>
              have hgP : (places l a)[a]'HIB.out = (s, e) := HPP.out.symm
              have HYES := part_yes hl HIB.out hciw (by rw [hgP, ← HPC.out]; exact HF.out.symm) (q := ((l.nx.getD s []).getD c 0, pd l.k c)) (by rw [hgP])
              have HRY := rowP_yes hl HIB.out hciw (by rw [hgP, ← HPC.out]; exact HF.out.symm) (q := ((l.nx.getD s []).getD c 0, pd l.k c)) (by rw [hgP])
              rw [hgP] at HRY
              obtain ⟨t, ht⟩ : ∃ t, t = (l.nx.getD s []).getD c 0 := ⟨_, rfl⟩
              rw [← ht, ← HPC.out] at HYES HRY
              obtain ⟨hY1, -, hYD⟩ := HYES
              have htn : t < n := by rw [HNN.out]; exact hYD.1
              have HY1 := Lib.hid hY1
              have HRY := Lib.hid HRY
              have hb3 := (HKB.out 3).trans (cells_get HK2.out.box 3)
              simp at hb3
              obtain ⟨V, ⟨a6, b6, o6, cp6, e6, -, haa6, hca6⟩, hrows⟩ := HN.out _ (K0.base (Below.trans HK2.out (HB3.out.mono (by omega))))
              have hnl : (l.nx.map ofN).length = n := by rw [List.length_map, hl.len, HNN.out]
              rw [hnl] at e6 haa6 hca6 hrows
              have e6' : ab = a6 := by injection e6
              subst e6'
              obtain ⟨rfl, -⟩ := haa6 (by omega)
              have n4 := hca6 s hsn
              obtain ⟨a8, b8, o8, cp8, e8, -, haa8, hca8⟩ := hrows s hsn
              have er : (l.nx.map ofN).getD s [] = ofN (l.nx.getD s []) := by
                have : s < l.nx.length := by rw [hl.len, ← HNN.out]; exact hsn
                simp [List.getD, this]
              rw [er, ofN_length, hl.row s (by rw [← HNN.out]; exact hsn), ← HWD.out] at e8 haa8 hca8
              rw [e8] at n4
              obtain ⟨rfl, -⟩ := haa8 (by omega)
              have n5 : wr.cell? ⟨b8, o8 + c, none⟩ = some (.int .i64 ((ofN (l.nx.getD s [])).getD c 0)) := hca8 c hcl
              rw [ofN_get _ (by rw [hl.row s (by rw [← HNN.out]; exact hsn), ← HWD.out]; exact hcl), ← ht] at n5
              have HSZ3 := Lib.hid (Nat.le_trans HMS0.out HB3.out.size)
              have HMEET := Lib.hid (show Calls Tryd.prog 77 #[.agg #[.int .i64 (t : Nat), .int .i64 (p : Nat)], .pointer (some ⟨M + 1, 0, none⟩), .pointer (some ⟨M + 1 + 1 + 1, 0, none⟩)] wr fun e w' =>
                  ∃ v', e = .returned (.int .i64 ((TidyMath.idx id (TidyClass.part id (succR l) (l.start, 0) a c) (t, p) + 1 : Nat) : Int)) ∧ Places.Met w' M (M + 1) (M + 1 + 1 + 1) M n8 v' (TidyMath.meet id (TidyClass.part id (succR l) (l.start, 0) a c) (t, p)) ∧ MetFrame wr w' (M + 1 + 1 + 1) M v v' from
                meet (t, p) wr M (M + 1) (M + 1 + 1 + 1) M n8 v (TidyClass.part id (succR l) (l.start, 0) a c) HM3.out HSZ3.out (by show t < 100000000; omega) hp8 (by unfold Places.code; have := HN8.out; show t * 8 + p < n8; omega) (by omega) (by
                have h1 := (part_prefix id (succR l) (l.start, 0) HPB.out (c := c) HIB.out).length_le
                have h2 : (bfs id (succR l) (l.start, 0) (l.acc.length * 8)).length ≤ l.acc.length * 8 := HPB.out (l.acc.length * 8)
                have h3 := HNN.out
                have h4 := Nat.le_trans h1 h2
                omega))
              obtain ⟨x, hx⟩ : ∃ x, x = TidyMath.idx id (TidyClass.part id (succR l) (l.start, 0) a c) (t, p) + 1 := ⟨_, rfl⟩
              rw [← hx] at HMEET HRY
              rw [← HY1.out] at HMEET
              have HXX := Lib.hid hx
              clear hca8 haa8 e8 hrows hca6 haa6 e6 er hYD hY1 ht hnl hx hgP
              have HARM := Lib.hid (fun (w6 : World) (v' : Value) (hm : Places.Met w6 M (M + 1) (M + 1 + 1 + 1) M n8 v' (TidyClass.part id (succR l) (l.start, 0) a (c + 1))) (hf : MetFrame wr w6 (M + 1 + 1 + 1) M v v') =>
                And.intro (Bld.met [(.slice (some ⟨Z + 1, 0, none⟩) wd wd, tv wd (rowT l (s, e) c))] [] HE.out HM3.out hm hf) (And.intro (MetFrame.keep hf HM3.out HPL.out HVZ.out) (HB3.out.trans (MetFrame.below hf HM3.out HSZ3.out))))
              have HCEL := Lib.hid (fun (w6 : World) (v' : Value) (hm : Places.Met w6 M (M + 1) (M + 1 + 1 + 1) M n8 v' (TidyClass.part id (succR l) (l.start, 0) a (c + 1))) (hf : MetFrame wr w6 (M + 1 + 1 + 1) M v v') =>
                (show w6.cell? ⟨Z + 1, c, none⟩ = some (.int .i64 (rowT l (s, e) c c)) ∧ w6.frozen? ⟨Z + 1, c, none⟩ = false from by
                  have h7 := (Own.get [] _ (HARM.out w6 v' hm hf).1.own)
                  have c7 := h7.cellOf (i := c) (by rw [tv_length]; exact hcl)
                  rw [tv_get] at c7
                  exact ⟨c7, h7.free c⟩))
              go_wp2_with (first
                | (go_at_call 78; refine (HFOL.out _).mono ?_; rintro e w' ⟨rfl, rfl⟩)
                | (go_at_call 77; refine HMEET.out.mono ?_; rintro e w6 ⟨v', rfl, hm, hf⟩; have HM6 := Lib.hid hm; have HA6 := Lib.hid (HARM.out w6 v' hm hf); have c7 := (HCEL.out w6 v' hm hf).1; have f7 := (HCEL.out w6 v' hm hf).2; have l7 := World.block_lt_of_cell? _ _ c7; clear hm hf))
              go_roundw
              case rel =>
                have h1 := HA6.out.1.setInt [] [_] (i := c) (by rw [tv_length]; exact hcl) (.int .i64 (x : Nat))
                rw [rowT_set l (s, e) wd c (x : Nat) (by rw [HRY.out]), List.nil_append] at h1
                refine ⟨c + 1, v', hcl, by go_num, h1, Met.setRow HM6.out (Own.get [] _ HA6.out.1.own) (by have := HB2.out.size; have := HMS0.out; have := HZ.out; omega) c _, ?_, HA6.out.2.1.2, HA6.out.2.2.setCell (by show M ≤ Z + 1; have := HZ.out; omega) _⟩
                rw [Below.heap_setCell _ _ _ _ (by show Z ≠ Z + 1; omega)]
                exact HA6.out.2.1.1
              case measure => simp [intOf]; omega
          · obtain rfl : wd = c := by omega
            have HPE := Lib.hid (show TidyClass.part id (succR l) (l.start, 0) a wd = places l (a + 1) from part_all id (succR l) (l.start, 0) HIB.out (by rw [succR_length, HWD.out]; exact Nat.le_refl _))
            have hb2 := (HKB.out 2).trans (cells_get HK2.out.box 2)
            simp at hb2
            obtain ⟨a9, b9, o9, cp9, e9, -, haa9, hca9⟩ := HA.out _ (K0.base (Below.trans HK2.out (HB3.out.mono (by omega))))
            rw [← HNN.out] at e9 haa9 hca9
            have e9' : aa = a9 := by injection e9
            subst e9'
            obtain ⟨rfl, -⟩ := haa9 (by omega)
            have hac : wr.cell? ⟨b9, o9 + s, none⟩ = some (.bool (l.acc.getD s false)) := hca9 s hsn
            obtain ⟨u, hu⟩ : ∃ u, u = l.acc.getD s false := ⟨_, rfl⟩
            rw [← hu] at hac
            have HU := Lib.hid hu
            have k2 := hbld.c2
            have hZl := hbld.lt
            have hfz := cells_free hbld.at_ 2
            clear hbld hmet hpl hvz hbel hca9 haa9 e9 hu HBI HMI HLI HPI HVI
            go_upto_region 19 with fail
            have HED := Lib.hid HE.out.drew
            have HMD := Lib.hid (HM3.out.drewN 1)
            have HBD := Lib.hid HB3.out.drew
            have HSZ := Lib.hid (show M ≤ wr.drew.heap.size from Nat.le_trans HMS0.out HB3.out.size)
            have HAL := Lib.hid (show (Value.bool false :: ((F l).take a).map fun p => Value.bool (l.acc.getD p.1 false)).length ≤ 100000000 by rw [List.length_cons, List.length_map, List.length_take]; have := HPB.out (l.acc.length * 8); have := HNN.out; unfold F; omega)
            have HIL := Lib.hid (show (items.map Prod.fst).length ≤ 100000000 by
              have := congrArg List.length HI.out
              rw [List.length_map, List.length_cons, List.length_map, List.length_take] at this
              have h8 := HPB.out (l.acc.length * 8)
              have h9 := HNN.out
              unfold F at this
              rw [List.length_map, this]; omega)
            go_cut [] (fun wx => ∃ va', Bld wx M ob k 1 va' vn ((.slice (some ⟨Z + 1, 0, none⟩) wd wd, tv wd (rowT l (s, e) wd)) :: [(.slice (some ⟨M, 0, none⟩) n8 n8, tv n8 (numP (TidyClass.part id (succR l) (l.start, 0) a wd)))]) items ((.bool false :: ((F l).take a).map fun p => .bool (l.acc.getD p.1 false)) ++ [.bool u]) ∧
              Places.Met wx M (M + 1) (M + 1 + 1 + 1) M n8 v (TidyClass.part id (succR l) (l.start, 0) a wd) ∧ Below M w2 wx)
            case first =>
              go_region_law (refine step_push rfl _ _ 22 rfl 4 (.bool false) 1 Tryd.underlying22 info4 (by decide) (by decide) M va _ (.bool u) HED.out.acc HSZ.out rfl HAL.out (by simp [Act.eval, Act.put]) _ (by simp [Act.eval, Act.put]) rfl ?_; intro v4 w4 hp4; obtain ⟨a4, n4, cp4, rfl, HN4⟩ := hp4.lst.shape'; have o4 := HED.out.obAcc hp4; have q2 := (cells_get o4 2); have z2 := cells_free o4 2; have hl4 := (lt_of_block o4); have HE4 := Lib.hid (HED.out.pushAcc hp4); have HM4 := Lib.hid (met_acc HED.out HMD.out hp4); have HB4 := Lib.hid ((HBD.out.grown hp4.grow HSZ.out (fun q hq => HED.out.acc.ge hq)).setCell (p := ⟨ob, 2, none⟩) HED.out.obB (.slice a4 n4 cp4)); simp at q2; clear hp4 o4)
              all_goals
                go_wp2_with fail
                go_meet
                exact ⟨_, HE4.out, HM4.out, HB4.out⟩
            case rest =>
              obtain ⟨va4, hcb, hcm, hcb2⟩ := hcut
              have HE4 := Lib.hid hcb
              have HM4 := Lib.hid hcm
              have HB4 := Lib.hid hcb2
              have q3 := hcb.c3
              have hl4 := hcb.lt
              have z3 := cells_free hcb.at_ 3
              have HS4 := Lib.hid (Nat.le_trans HMS0.out hcb2.size)
              clear hcb hcm hcb2 hac hb2 pS pE k2 hZl hfz
              go_wp2_with (at_builtin; refine wpList_push rfl _ _ 23 rfl 52 (.slice none 0 0) 24 Tryd.underlying23 info54 (by decide) (by decide) M vn _ (.slice (some ⟨Z + 1, 0, none⟩) wd wd) HE4.out.nxt HS4.out rfl HIL.out rfl _ rfl rfl ?_; intro v5 w5 hp5; obtain ⟨a5, n5, cp5, rfl, HN5⟩ := hp5.lst.shape'; have o5 := HE4.out.obNext hp5; have q5 := (cells_get o5 3); have z5 := cells_free o5 3; have hl5 := (lt_of_block o5); have HE5 := Lib.hid (HE4.out.pushNext [] [_] hp5); have HM5 := Lib.hid (met_next HE4.out HM4.out HVN.out hp5); have HB5 := Lib.hid ((HB4.out.grown hp5.grow HS4.out (fun q hq => HE4.out.nxt.ge hq)).setCell (p := ⟨ob, 3, none⟩) HE4.out.obB (.slice a5 n5 cp5)); simp at q5; clear hp5 o5)
              go_roundw
              case rel =>
                have h1 := HE5.out
                rw [List.nil_append] at h1
                have h3 : [Value.bool u] = List.map (fun p : Nat × Nat => Value.bool (l.acc.getD p.1 false)) [(s, e)] := by rw [HU.out]; rfl
                have hFa : (F l).getD a (0, 0) = (s, e) := by rw [List.getD, List.getElem?_eq_getElem HIF.out, Option.getD_some, ← HGF.out]; exact HPP.out.symm
                have h5 : (F l).take (a + 1) = (F l).take a ++ [(s, e)] := by rw [take_succ_getD (F l) (0, 0) a HIF.out, hFa]
                rw [h3, List.cons_append, ← List.map_append, ← h5, HPE.out] at h1
                have h2 := HM5.out.1
                rw [HPE.out] at h2
                refine ⟨a + 1, v, _, _, _, ?_, by rw [HII.out]; go_num, h1, ?_, h2, HB5.out, HM5.out.2⟩
                · have h2 := (bfs_step id (succR l) (l.start, 0) a).length_le; have h3 := HIB.out; show a + 1 ≤ (bfs id (succR l) (l.start, 0) (a + 1)).length; exact Nat.le_trans h3 h2
                · rw [h5, List.map_append, List.map_append, HI.out, List.cons_append]; rfl
              case measure => have := HLN8.out; have := HII.out; simp [intOf]; omega
      · obtain rfl : a = len := by omega
        have hFe := places_end hl (a := a) (Nat.le_of_eq HLEN.out.symm)
        have HFL := Lib.hid (show (F l).length = a by rw [← hFe]; exact HLEN.out.symm)
        have HFT := Lib.hid (show (F l).take a = F l from List.take_of_length_le (by rw [HFL.out]; exact Nat.le_refl _))
        have hia : ¬ i < a + 1 := by omega
        have hres := K0.res (Below.trans HK2.out (HB2.out.mono (by have := HKM.out; omega)))
        obtain ⟨a4, n4, cp4, rfl, -⟩ := HD.out.acc.shape'
        obtain ⟨a5, n5, cp6, rfl, -⟩ := HD.out.nxt.shape'
        have y0 := cells_get HD.out.at_ 0
        have y1 := cells_get HD.out.at_ 1
        have y2 := cells_get HD.out.at_ 2
        have y3 := cells_get HD.out.at_ 3
        have r0 := cells_get hres 0
        have r1 := cells_get hres 1
        have r2 := cells_get hres 2
        have r3 := cells_get hres 3
        have f0 := cells_free hres 0
        have f1 := cells_free hres 1
        have f2 := cells_free hres 2
        have f3 := cells_free hres 3
        have hlS := lt_of_block hres
        have hlO := HD.out.lt
        simp at y0 y1 y2 y3 r0 r1 r2 r3
        have p0 := cells_set hres 0 (.int .i64 k)
        have p1 := cells_set p0 1 (.int .i64 1)
        have p2 := cells_set p1 2 (.slice a4 n4 cp4)
        have p3 := cells_set p2 3 (.slice a5 n5 cp6)
        simp at p3
        have g0 := cells_get p3 0
        have g1 := cells_get p3 1
        have g2 := cells_get p3 2
        have g3 := cells_get p3 3
        simp at g0 g1 g2 g3
        have HG := Lib.hid (And.intro g0 (And.intro g1 (And.intro g2 g3)))
        have HBL := Lib.hid (show Built wr M (.slice a4 n4 cp4) (.slice a5 n5 cp6) (accP l) ((nxP l).map ofN) from Built.of_bld HD.out (by rw [HFT.out]; unfold accP; rw [List.map_cons, List.map_map]; rfl) (by
          rw [HI.out, HFT.out]
          unfold nxP
          rw [List.map_cons, List.map_cons, List.map_map, List.map_map, HWD.out]
          congr 1
          · rw [← tv_rep]; simp [ofN]
          · refine List.map_congr_left fun p _ => ?_
            exact rowT_end l p))
        clear p0 p1 p2 p3 g0 g1 g2 g3 hres hi
        go_wp2_with fail
        obtain ⟨g0, g1, g2, g3⟩ := HG.out
        have hKM := HKM.out
        refine bodyPost_ret (v := .agg #[.int .i64 k, .int .i64 1, .slice a4 n4 cp4, .slice a5 n5 cp6]) (by simp [results, Tryd.results71, go_sem, g0, g1, g2, g3]) rfl ⟨.slice a4 n4 cp4, .slice a5 n5 cp6, by rfl, ?_, ?_⟩
        · have hlow : w.heap.size + 1 < M := by omega
          exact (((((HBL.out.setLow (a := ⟨w.heap.size + 1, 0, none⟩) hlow _).setLow (a := ⟨w.heap.size + 1, 1, none⟩) hlow _).setLow (a := ⟨w.heap.size + 1, 2, none⟩) hlow _).setLow (a := ⟨w.heap.size + 1, 3, none⟩) hlow _).mono (by omega))
        · have HX := (K0.base HK2.out).trans (HB2.out.mono (show w.heap.size ≤ M by omega))
          exact (((((HX.setCell (p := ⟨w.heap.size + 1, 0, none⟩) (Nat.le_succ _) _).setCell (p := ⟨w.heap.size + 1, 1, none⟩) (Nat.le_succ _) _).setCell (p := ⟨w.heap.size + 1, 2, none⟩) (Nat.le_succ _) _).setCell (p := ⟨w.heap.size + 1, 3, none⟩) (Nat.le_succ _) _))
end Go.Proofs.YtaimealknkhfbaaDoor.ImplRight
