
/- What the program's function that makes an automaton by a rule hands back.
   Conditions: stated at each theorem. -/
import Derived.Test.YtaimealknkhfbaaDoorRB8
import Derived.Test.YtaimealknkhfbaaDoorRB9
import Derived.Deep.QuietTactic
import Derived.BigQuiet
namespace Go.Proofs.YtaimealknkhfbaaDoor.Automaton
set_option linter.unusedVariables false
set_option linter.unusedSimpArgs false
open Go.RowKit Mem Copy Rel Valid Heap Columns Numbers Bld TidyMath TidyRight SpecRight

/-- The struct in block ob is put together, the accepting states being another's list. -/
structure Aut (w : World) (B ob : Nat) (k : Int) (va vn : Value) (ints items : List (Value × List Value)) : Prop where
  own : Own w B 2 (ints ++ items)
  nxt : Lst w B 52 vn (items.map Prod.fst)
  at_ : w.heap[ob]? = some (.cells #[.int .i64 k, .int .i64 0, va, vn] 27 (0, 0))
  obB : B ≤ ob
section
variable {w w' : World} {B ob : Nat} {k : Int} {va vn : Value} {ints items : List (Value × List Value)}
theorem Aut.lt (h : Aut w B ob k va vn ints items) : ob < w.heap.size := lt_of_block h.at_
theorem Aut.below (h : Aut w B ob k va vn ints items) (hb : Below w.heap.size w w') : Aut w' B ob k va vn ints items :=
  ⟨h.own.below hb, h.nxt.below hb, by rw [hb.block ob h.lt]; exact h.at_, h.obB⟩
theorem Aut.addInt (h : Aut w B ob k va vn ints items) (hb : Below w.heap.size w w') {v : Value} {xs : List Value} (hl : Lst w' B 2 v xs) (hn : ∀ k, v.ownBlock = some k → w.heap.size ≤ k) : Aut w' B ob k va vn ((v, xs) :: ints) items :=
  ⟨h.own.addNew hb hl hn, h.nxt.below hb, by rw [hb.block ob h.lt]; exact h.at_, h.obB⟩
theorem Aut.setInt (l1 l2 : List (Value × List Value)) {g n cap : Nat} {xs : List Value} (h : Aut w B ob k va vn (l1 ++ (.slice (some ⟨g, 0, none⟩) n cap, xs) :: l2) items) {i : Nat} (hi : i < xs.length) (u : Value) :
    Aut (w.setCell ⟨g, i, none⟩ u) B ob k va vn (l1 ++ (.slice (some ⟨g, 0, none⟩) n cap, xs.set i u) :: l2) items := by
  have ho : Own w B 2 (l1 ++ (.slice (some ⟨g, 0, none⟩) n cap, xs) :: (l2 ++ items)) := by have := h.own; rw [List.append_assoc] at this; exact this
  have hv := Own.get l1 (l2 ++ items) ho
  refine ⟨?_, h.nxt.setOther (hv.apart h.nxt (by decide) g rfl) u, ?_, h.obB⟩
  · rw [List.append_assoc]; exact Own.set l1 (l2 ++ items) ho hi u
  · rw [Below.heap_setCell _ _ _ _ (fun e => block_apart hv h.at_ (by decide) (by show some g = some ob; rw [e]))]; exact h.at_
theorem Aut.obNext {vn' v : Value} (h : Aut w B ob k va vn ints items) (hp : Pushed w w' B 52 vn vn' (items.map Prod.fst) v) : w'.heap[ob]? = some (.cells #[.int .i64 k, .int .i64 0, va, vn] 27 (0, 0)) := by
  rw [hp.grow.block ob h.lt fun e => block_apart h.nxt h.at_ (by decide) e.symm]; exact h.at_
theorem Aut.pushNext (l1 l2 : List (Value × List Value)) {vn' v : Value} {xs : List Value} (h : Aut w B ob k va vn (l1 ++ (v, xs) :: l2) items) (hp : Pushed w w' B 52 vn vn' (items.map Prod.fst) v) :
    Aut (w'.setCell ⟨ob, 3, none⟩ vn') B ob k va vn' (l1 ++ l2) (items ++ [(v, xs)]) := by
  have hob := h.obNext hp
  have ho : Own w' B 2 (l1 ++ (v, xs) :: l2 ++ items) := h.own.grown hp.grow fun k hk p hm => h.nxt.apart (h.own.lst p hm) (by decide) k hk
  refine ⟨Own.perm (ho.setOther (a := ⟨ob, 3, none⟩) hob (by decide) _) ?_, ?_, cells_set hob 3 vn', h.obB⟩
  · have h1 : (l1 ++ (v, xs) :: l2 ++ items).Perm ((v, xs) :: (l1 ++ l2 ++ items)) := by
      rw [List.append_assoc, List.append_assoc]
      exact List.perm_middle
    have h2 : ((v, xs) :: (l1 ++ l2 ++ items)).Perm (l1 ++ l2 ++ (items ++ [(v, xs)])) := by
      rw [← List.append_assoc]
      exact (List.perm_append_singleton _ _).symm
    exact h1.trans h2
  · rw [List.map_append]
    exact hp.lst.setOther (block_apart hp.lst hob (by decide)) _
/-- The rows that are put together, as they read. -/
theorem Aut.rows (h : Aut w B ob k va vn [] items) {nx : List (List Int)} (hn : items.map Prod.snd = nx.map fun r => r.map (Value.int .i64)) : Built w B (.slice none 0 0) vn [] nx :=
  ⟨Lst.nil _ _ _, items, by have := h.own; rwa [List.nil_append] at this, h.nxt, hn⟩
theorem built_rows {w : World} {B : Nat} {vn : Value} {nx : List (List Int)} (hb : Built w B (.slice none 0 0) vn [] nx) (C : Nat) (hC : w.heap.size ≤ C) : IntRows w C vn nx := by
  obtain ⟨va', vn', e, -, hr⟩ := hb.reads C hC 0 0
  simp at e
  obtain ⟨-, rfl⟩ := e
  exact hr
theorem built_with {w : World} {B : Nat} {va vn : Value} {acc : List Bool} {nx : List (List Int)} (hb : Built w B (.slice none 0 0) vn [] nx) (ha : Lst w B 4 va (acc.map Value.bool)) : Built w B va vn acc nx := ⟨ha, hb.rows⟩
/-- A list that is written out. -/
theorem Lst.lit (w : World) (B : Nat) (t : TypeId) (c : Array Value) (hB : B ≤ w.heap.size) (hc : c.size ≤ 1000) :
    Lst (w.alloc (.cells c t)) B t (.slice (some ⟨w.heap.size, 0, none⟩) c.size c.size) c.toList :=
  ⟨by simp, .inr ⟨w.heap.size, c.size, c, by simp, hB, heap_alloc_new w _, by simp, by unfold maxLen; omega, by simp, by rw [Array.length_toList, Nat.mul_one]; exact List.take_of_length_le (by simp)⟩⟩
end

/-- The rows of an automaton of n states that is told by a rule. -/
def autN (k n : Nat) (nx : Nat → Nat → Int) : List (List Int) := (List.range n).map fun s => (List.range (wide k)).map (nx s)

set_option maxRecDepth 100000 in
set_option maxHeartbeats 8000000 in
theorem automaton (k : Nat) (h1 : 1 ≤ k) (h3 : k ≤ 3) (va : Value) (acc : List Bool) (w : World) (B : Nat) (hacc : Bools w B va acc) (hB : B ≤ w.heap.size) (hn : acc.length ≤ 100000) (fid : FuncId) (hcf : ∀ (args : Array Value) (W : World), (callFunc fid args).run Tryd.prog W = .ok (.enter fid args) W) (caps : Array Value) (nx : Nat → Nat → Int)
    (hC : ∀ W, Below w.heap.size w W → ∀ s c : Nat, s < acc.length → c < wide k → Calls Tryd.prog fid (#[.int .i64 s, lettersV k c] ++ caps) W fun e w' => e = .returned (.int .i64 (nx s c)) ∧ Below W.heap.size W w') :
    Calls Tryd.prog 64 #[.int .i64 k, va, .func (.func fid) #[] caps] w fun e w' => ∃ vn, e = .returned (.agg #[.int .i64 k, .int .i64 0, va, vn]) ∧ Built w' w.heap.size (.slice none 0 0) vn [] (autN k acc.length nx) ∧ Below w.heap.size w w' := by
  have hcnt := countAny (k : Int) (by omega) (by omega)
  have hwk : widthOf (k : Int) = ((wide k : Nat) : Int) := by
    have : k = 1 ∨ k = 2 ∨ k = 3 := by omega
    rcases this with rfl | rfl | rfl <;> rfl
  rw [hwk] at hcnt
  have hw26 : wide k ≤ 26 := by have := wide_cases h1 h3; omega
  have HL := Lib.hid (fun (c : Nat) (hc : c < 26) W => lettersAny k h1 h3 (c : Int) (by omega) (by omega) W)
  have HAU := Lib.hid (show ∀ n, n = acc.length → autN k n nx = (List.range n).map fun s => (List.range (wide k)).map (nx s) from fun n _ => rfl)
  obtain ⟨m, hm⟩ : ∃ m, m = wide k := ⟨_, rfl⟩
  rw [← hm] at hcnt hw26 hC HAU
  obtain ⟨aa, ba, oa, ca, rfl, hma, -, -⟩ := hacc
  obtain ⟨n, hnn⟩ : ∃ n, n = acc.length := ⟨_, rfl⟩
  rw [← hnn] at hma hn hC HAU
  rw [← hnn]
  have HC := Lib.hid hcnt
  have HCC := Lib.hid hC
  have hmk := run_make_row' (P := Tryd.prog) 52 2 (.int .i64 0) 8 Tryd.underlying52 info2 rfl .i64 .i64 m (by omega) (by omega)
  have HAE := Lib.hid (HAU.out n rfl)
  clear hcnt hwk hm hC hnn HAU
  have HA0 := Lib.hid (show Aut ((w.alloc (.cells #[Value.int .i64 0, .int .i64 0, .slice none 0 0, .slice none 0 0] 27)).alloc (.cells #[Value.int .i64 k, .int .i64 0, .slice aa n ca, .slice none 0 0] 27)) (w.heap.size + 1) (w.heap.size + 1) k (.slice aa n ca) (.slice none 0 0) [] [] from
    ⟨Own.nil _ _ _, Lst.nil _ _ _, by have := heap_alloc_new (w.alloc (.cells #[Value.int .i64 0, .int .i64 0, .slice none 0 0, .slice none 0 0] 27)) (.cells #[Value.int .i64 k, .int .i64 0, .slice aa n ca, .slice none 0 0] 27); rwa [size_alloc'] at this, Nat.le_refl _⟩)
  have HB0 := Lib.hid (show Kp w ((w.alloc (.cells #[Value.int .i64 0, .int .i64 0, .slice none 0 0, .slice none 0 0] 27)).alloc (.cells #[Value.int .i64 k, .int .i64 0, .slice aa n ca, .slice none 0 0] 27)) from (Below.refl _ _).alloc (by simp) _)
  go_enter Tryd.func64, Tryd.ntmps64
  go_wp2_with fail
  go_loopw [8, 9, 10, 16, 24] (fun _ _ _ s16 _ wr => ∃ (i : Nat) (vn : Value) (items : List (Value × List Value)), i ≤ n ∧ s16 = .int .i64 i ∧ Aut wr (w.heap.size + 1) (w.heap.size + 1) k (.slice aa n ca) vn [] items ∧
    items.map Prod.snd = (List.range i).map (fun s => tv m (nx s)) ∧ Kp w wr) (fun _ _ _ s16 _ _ => n - (intOf s16).toNat)
  case atStart => exact ⟨0, _, [], Nat.zero_le _, rfl, HA0.out, rfl, HB0.out⟩
  case round =>
    obtain ⟨i, vn, items, hi, rfl, haut, hit, hbel⟩ := hrel
    have HD := Lib.hid haut
    have HI := Lib.hid hit
    have HB := Lib.hid hbel
    clear haut hit hbel HA0 HB0
    by_cases hlt : i < n
    · obtain ⟨g, hg⟩ : ∃ g, g = wr.heap.size := ⟨_, rfl⟩
      have HA1 := Lib.hid (show Aut (wr.alloc (.cells (madeCells #[Value.int .i64 0] m) 2)) (w.heap.size + 1) (w.heap.size + 1) k (.slice aa n ca) vn [(.slice (some ⟨g, 0, none⟩) m m, tv m fun c => if c < 0 then nx i c else 0)] items from by
        have h1 := Lst.made wr (w.heap.size + 1) 2 (.int .i64 0) m (Kp.size HB.out) (by unfold maxLen; omega)
        rw [tv_rep] at h1
        rw [hg]
        exact HD.out.addInt ((Below.refl _ _).alloc (Nat.le_refl _) _) h1 (fun q hq => by cases hq; exact Nat.le_refl _))
      have HB1 := Lib.hid (show Kp w (wr.alloc (.cells (madeCells #[Value.int .i64 0] m) 2)) from Below.alloc HB.out (Kp.size HB.out) _)
      have HCI := Lib.hid (fun W (hb : Kp w W) (c : Nat) (hc : c < m) => HCC.out W (Kp.base hb) i c hlt hc)
      go_wp2_with (go_at_call 38; refine (HC.out _).mono ?_; rintro e w' ⟨rfl, rfl⟩)
      rw [← hg]
      clear hg
      go_loopw [10, 24] (fun _ s24 wr' => ∃ c : Nat, c ≤ m ∧ s24 = .int .i64 c ∧ Aut wr' (w.heap.size + 1) (w.heap.size + 1) k (.slice aa n ca) vn [(.slice (some ⟨g, 0, none⟩) m m, tv m fun q => if q < c then nx i q else 0)] items ∧ Kp w wr') (fun _ s24 _ => m - (intOf s24).toNat)
      case atStart => exact ⟨0, Nat.zero_le _, rfl, HA1.out, HB1.out⟩
      case round =>
        obtain ⟨c, hc, rfl, haut, hbel⟩ := hrel
        have HD2 := Lib.hid haut
        have HB2 := Lib.hid hbel
        clear haut hbel HA1 HB1 hmk
        by_cases hlc : c < m
        · have HLJ := Lib.hid (HL.out c (by omega))
          go_wp2_with fail
          refine (HLJ.out _).mono ?_
          rintro e w1 ⟨rfl, hb⟩
          have HD3 := Lib.hid (HD2.out.below hb)
          have HB3 := Lib.hid (show Kp w w1 from Below.trans HB2.out (hb.mono (Kp.size HB2.out)))
          clear hb
          go_wp2_with fail
          refine (HCI.out _ HB3.out c hlc).mono ?_
          rintro e w2 ⟨rfl, hb⟩
          have HD4 := Lib.hid (HD3.out.below hb)
          have HB4 := Lib.hid (show Kp w w2 from Below.trans HB3.out (hb.mono (Kp.size HB3.out)))
          have c9 := (Own.get [] _ HD4.out.own).cellOf (i := c) (by rw [tv_length]; exact hlc)
          have f9 := (Own.get [] _ HD4.out.own).free c
          rw [tv_get] at c9
          have hgl := (Own.get [] _ HD4.out.own).lt (k := g) rfl
          clear hb HD3 HB3
          go_wp2_with fail
          go_roundw
          case rel =>
            have h1 := Aut.setInt [] [] (i := c) HD4.out (by rw [tv_length]; exact hlc) (.int .i64 (nx i c))
            rw [tv_set] at h1
            refine ⟨c + 1, hlc, by go_num, ?_, HB4.out.setCell ((Own.get [] _ HD4.out.own).ge (k := g) rfl) _⟩
            rw [show (fun q => if q < c + 1 then nx i q else 0) = (fun q => if q = c then nx i c else if q < c then nx i q else 0) from funext fun q => by
              by_cases e : q = c
              · subst e; simp
              · have : (q < c + 1) = (q < c) := by apply propext; constructor <;> intro h <;> omega
                simp only [if_neg e, this]]
            exact h1
          case measure => simp [intOf]; omega
        · obtain rfl : c = m := by omega
          have HE4 := Lib.hid (show Aut wr (w.heap.size + 1) (w.heap.size + 1) k (.slice aa n ca) vn [(.slice (some ⟨g, 0, none⟩) c c, tv c (nx i))] items from by
            have h1 := HD2.out
            rw [tv_congr (S := nx i) (fun q hq => by rw [if_pos hq])] at h1
            exact h1)
          have HIL := Lib.hid (show (items.map Prod.fst).length ≤ 100000000 from by
            have := congrArg List.length HI.out
            rw [List.length_map, List.length_map, List.length_range] at this
            rw [List.length_map]; omega)
          have HS4 := Lib.hid (Kp.size HB2.out)
          have q3 := cells_get HE4.out.at_ 3
          have z3 := cells_free HE4.out.at_ 3
          have hl4 := HE4.out.lt
          simp at q3
          obtain ⟨a0, n0, c0, rfl, -⟩ := HE4.out.nxt.shape'
          go_wp2_with (at_builtin; refine wpList_push rfl _ _ 23 rfl 52 (.slice none 0 0) 24 Tryd.underlying23 info54 (by decide) (by decide) (w.heap.size + 1) (.slice a0 n0 c0) _ (.slice (some ⟨g, 0, none⟩) c c) HE4.out.nxt HS4.out rfl HIL.out rfl _ rfl rfl ?_; intro v5 w5 hp5; obtain ⟨a5, n5, cp5, rfl, HN5⟩ := hp5.lst.shape'; have o5 := HE4.out.obNext hp5; have q5 := (cells_get o5 3); have z5 := cells_free o5 3; have hl5 := (lt_of_block o5); have HE5 := Lib.hid (HE4.out.pushNext [] [] hp5); have HB5 := Lib.hid ((Below.grown HB2.out hp5.grow HS4.out (fun q hq => HE4.out.nxt.ge hq)).setCell (p := ⟨w.heap.size + 1, 3, none⟩) HE4.out.obB (.slice a5 n5 cp5)); simp at q5; clear hp5 o5)
          go_roundw
          case rel =>
            have h1 := HE5.out
            rw [List.nil_append] at h1
            refine ⟨i + 1, _, _, hlt, by go_num, h1, ?_, HB5.out⟩
            rw [List.map_append, HI.out, List.range_succ, List.map_append]; rfl
          case measure => simp [intOf]; omega
    · obtain rfl : i = n := by omega
      have hres := Kp.res HB.out
      obtain ⟨a5, n5, cp6, rfl, -⟩ := HD.out.nxt.shape'
      have y0 := cells_get HD.out.at_ 0
      have y1 := cells_get HD.out.at_ 1
      have y2 := cells_get HD.out.at_ 2
      have y3 := cells_get HD.out.at_ 3
      have hly := HD.out.lt
      have r0 := cells_get hres 0
      have r1 := cells_get hres 1
      have r2 := cells_get hres 2
      have r3 := cells_get hres 3
      have f0 := cells_free hres 0
      have f1 := cells_free hres 1
      have f2 := cells_free hres 2
      have f3 := cells_free hres 3
      have hlS := lt_of_block hres
      have p0 := cells_set hres 0 (.int .i64 k)
      have p1 := cells_set p0 1 (.int .i64 0)
      have p2 := cells_set p1 2 (.slice aa i ca)
      have p3 := cells_set p2 3 (.slice a5 n5 cp6)
      simp at y0 y1 y2 y3 r0 r1 r2 r3 p3
      have g0 := cells_get p3 0
      have g1 := cells_get p3 1
      have g2 := cells_get p3 2
      have g3 := cells_get p3 3
      simp at g0 g1 g2 g3
      have HG := Lib.hid (And.intro g0 (And.intro g1 (And.intro g2 g3)))
      have HRW := Lib.hid (show items.map Prod.snd = (autN k i nx).map fun r => r.map (Value.int .i64) from by
        rw [HI.out, HAE.out, List.map_map]
        refine List.map_congr_left fun q _ => ?_
        show tv m (nx q) = ((List.range m).map (nx q)).map (Value.int .i64)
        unfold tv; rw [List.map_map]; rfl)
      clear p0 p1 p2 p3 g0 g1 g2 g3 hres hmk
      go_wp2_with fail
      obtain ⟨g0, g1, g2, g3⟩ := HG.out
      refine bodyPost_ret (v := .agg #[.int .i64 k, .int .i64 0, .slice aa i ca, .slice a5 n5 cp6]) (by simp [results, Tryd.results64, go_sem, g0, g1, g2, g3]) rfl ⟨.slice a5 n5 cp6, rfl, ?_, ?_⟩
      · have hset : ∀ (W : World) (j : Nat) (u : Value), Aut W (w.heap.size + 1) (w.heap.size + 1) k (.slice aa i ca) (.slice a5 n5 cp6) [] items → Aut (W.setCell ⟨w.heap.size, j, none⟩ u) (w.heap.size + 1) (w.heap.size + 1) k (.slice aa i ca) (.slice a5 n5 cp6) [] items := fun W j u h => by
          have hne : ∀ (v : Value) (xs : List Value) (t : TypeId), Lst W (w.heap.size + 1) t v xs → v.ownBlock ≠ some w.heap.size := fun v xs t hl e => by have := hl.ge e; omega
          refine ⟨⟨fun p hp => (h.own.lst p hp).setOther (hne _ _ _ (h.own.lst p hp)) u, h.own.apart⟩, h.nxt.setOther (hne _ _ _ h.nxt) u, ?_, h.obB⟩
          rw [Below.heap_setCell _ _ _ _ (fun e => by have e : w.heap.size + 1 = w.heap.size := e; omega)]
          exact h.at_
        exact ((hset _ 3 _ (hset _ 2 _ (hset _ 1 _ (hset _ 0 _ HD.out)))).rows HRW.out).mono (Nat.le_succ _)
      · have HBW := Kp.base HB.out
        exact (((HBW.setCell (p := ⟨w.heap.size, 0, none⟩) (Nat.le_refl _) _).setCell (p := ⟨w.heap.size, 1, none⟩) (Nat.le_refl _) _).setCell (p := ⟨w.heap.size, 2, none⟩) (Nat.le_refl _) _).setCell (p := ⟨w.heap.size, 3, none⟩) (Nat.le_refl _) _
end Go.Proofs.YtaimealknkhfbaaDoor.Automaton
/- Plain facts on automata that read the columns of another one changed: with a tape left out, with tapes in another order.
   Conditions: stated at each theorem. -/
namespace Go.Proofs.YtaimealknkhfbaaDoor.TapeMath
set_option linter.unusedVariables false
set_option linter.unusedSimpArgs false
set_option maxRecDepth 100000
open Go.RowKit Mem Copy Rel Valid Heap Columns SpecFiner Numbers ColMath TidyMath TidyRight SpecRight Automaton

/-- The automaton that reads columns as another one reads those to which they are changed; it stays where they are pads alone. -/
def reL (l : L) (k : Nat) (φ : Nat → Nat) : L := ⟨k, l.start, l.acc, (List.range l.acc.length).map fun s => (List.range (wide k)).map fun c => if φ c = wide l.k then s else (l.nx.getD s []).getD (φ c) 0⟩
/-- Where a column leads. -/
def reN (l : L) (φ : Nat → Nat) (s c : Nat) : Int := ((if φ c = wide l.k then s else (l.nx.getD s []).getD (φ c) 0 : Nat) : Int)
theorem reL_ok {l : L} {k : Nat} {φ : Nat → Nat} (h : l.Ok) (k0 : 1 ≤ k) (k3 : k ≤ 3) (hφ : ∀ c, c < wide k → φ c ≤ wide l.k) : (reL l k φ).Ok := by
  have hr : ∀ s, s < l.acc.length → (reL l k φ).nx.getD s [] = (List.range (wide k)).map fun c => if φ c = wide l.k then s else (l.nx.getD s []).getD (φ c) 0 := fun s hs => by
    show ((List.range l.acc.length).map _).getD s [] = _
    simp [List.getD, hs]
  refine ⟨k0, k3, h.st, by simp [reL], fun s hs => ?_, fun s hs c hc => ?_⟩
  · rw [hr s hs]; simp [reL]
  · rw [hr s hs]
    have hc' : c < wide k := hc
    have e : ((List.range (wide k)).map fun c => if φ c = wide l.k then s else (l.nx.getD s []).getD (φ c) 0).getD c 0 = if φ c = wide l.k then s else (l.nx.getD s []).getD (φ c) 0 := by simp [List.getD, hc']
    rw [e]
    show _ < l.acc.length
    split
    · exact hs
    · exact h.lt s hs _ (by have := hφ c hc; omega)
theorem reL_rel (l : L) (k : Nat) (φ : Nat → Nat) : relOf (reL l k φ) = ⟨k, l.start, l.acc, autN k l.acc.length (reN l φ)⟩ := by
  unfold relOf reL autN
  simp only [List.map_map]
  congr 1
  refine List.map_congr_left fun s _ => ?_
  simp [ofN, reN, Function.comp]
theorem reL_len (l : L) (k : Nat) (φ : Nat → Nat) : (reL l k φ).acc.length = l.acc.length := rfl

/-- A column without a tape, and how many tapes have been taken. -/
def leftTo (at_ c : Nat) : Nat → Nat × Nat
  | 0 => (0, 0)
  | t + 1 => if t = at_ then leftTo at_ c t else ((leftTo at_ c t).1 + c / 3 ^ t % 3 * 3 ^ (leftTo at_ c t).2, (leftTo at_ c t).2 + 1)
def leftN (k at_ c : Nat) : Nat := (leftTo at_ c k).1
theorem leftTo_le (at_ c t : Nat) : (leftTo at_ c t).2 ≤ t := by
  induction t with
  | zero => exact Nat.le_refl _
  | succ t ih => unfold leftTo; split <;> (try simp only) <;> omega
theorem leftTo_bound (at_ c t : Nat) : (leftTo at_ c t).1 ≤ 3 ^ (leftTo at_ c t).2 - 1 := by
  induction t with
  | zero => simp [leftTo]
  | succ t ih =>
    unfold leftTo
    split
    · exact ih
    · simp only
      have h1 : c / 3 ^ t % 3 ≤ 2 := by omega
      have h2 : 1 ≤ 3 ^ (leftTo at_ c t).2 := Nat.one_le_pow _ _ (by decide)
      have h3 : c / 3 ^ t % 3 * 3 ^ (leftTo at_ c t).2 ≤ 2 * 3 ^ (leftTo at_ c t).2 := Nat.mul_le_mul_right _ h1
      rw [Nat.pow_succ]
      omega
/-- What letters are left without those of a tape. -/
def letW (k at_ c t : Nat) : Int := if t < at_ then letT k c t else if t < 2 then letT k c (t + 1) else 35
def leftFine : Bool := (List.range 3).all fun k => k == 0 || (List.range 4).all fun a => decide (k < a) || (List.range (wide (k + 1))).all fun c => decide (leftN (k + 1) a c ≤ wide k) && (List.range 3).all fun t => letW (k + 1) a c t == letT k (leftN (k + 1) a c : Nat) t
theorem leftFine_true : leftFine = true := by decide +kernel
theorem left_fin {k at_ c : Nat} (h1 : 1 ≤ k) (h2 : k ≤ 2) (ha : at_ ≤ k) (hc : c < wide (k + 1)) : leftN (k + 1) at_ c ≤ wide k ∧ ∀ t, t < 3 → letW (k + 1) at_ c t = letT k (leftN (k + 1) at_ c : Nat) t := by
  have h := leftFine_true
  unfold leftFine at h
  have hk := List.all_eq_true.1 h k (List.mem_range.2 (by omega))
  rw [Bool.or_eq_true] at hk
  rcases hk with hk | hk
  · simp at hk; omega
  have h4 := List.all_eq_true.1 hk at_ (List.mem_range.2 (by omega))
  rw [Bool.or_eq_true] at h4
  rcases h4 with h4 | h4
  · simp at h4; omega
  have h5 := List.all_eq_true.1 h4 c (List.mem_range.2 hc)
  rw [Bool.and_eq_true] at h5
  exact ⟨of_decide_eq_true h5.1, fun t ht => eq_of_beq (List.all_eq_true.1 h5.2 t (List.mem_range.2 ht))⟩

/-- A column with the tapes in another order. -/
def putN (o : List Nat) (c : Nat) : Nat := ((List.range o.length).map fun t => c / 3 ^ (o.getD t 0) % 3 * 3 ^ t).foldl (· + ·) 0
def orders (k : Nat) : List (List Nat) := if k = 1 then [[0]] else if k = 2 then [[0, 1], [1, 0]] else [[0, 1, 2], [0, 2, 1], [1, 0, 2], [1, 2, 0], [2, 0, 1], [2, 1, 0]]
def putFine : Bool := (List.range 4).all fun k => k == 0 || (orders k).all fun o => (List.range (wide k)).all fun c => decide (putN o c < wide k) && (List.range 3).all fun t => (if t < k then letT k c (o.getD t 0) else 35) == letT k (putN o c : Nat) t
theorem putFine_true : putFine = true := by decide +kernel
theorem put_fin {k c : Nat} {o : List Nat} (h1 : 1 ≤ k) (h3 : k ≤ 3) (ho : o ∈ orders k) (hc : c < wide k) : putN o c < wide k ∧ ∀ t, t < 3 → (if t < k then letT k c (o.getD t 0) else 35) = letT k (putN o c : Nat) t := by
  have h := putFine_true
  unfold putFine at h
  have hk := List.all_eq_true.1 h k (List.mem_range.2 (by omega))
  rw [Bool.or_eq_true] at hk
  rcases hk with hk | hk
  · simp at hk; omega
  have h4 := List.all_eq_true.1 hk o ho
  have h5 := List.all_eq_true.1 h4 c (List.mem_range.2 hc)
  rw [Bool.and_eq_true] at h5
  exact ⟨of_decide_eq_true h5.1, fun t ht => eq_of_beq (List.all_eq_true.1 h5.2 t (List.mem_range.2 ht))⟩
end Go.Proofs.YtaimealknkhfbaaDoor.TapeMath
/- What the model's functions on the tapes of a column hand back: a digit, a power of three, a column with the tapes in another order.
   Conditions: stated at each theorem. -/
namespace Go.Proofs.YtaimealknkhfbaaDoor.PutS
set_option linter.unusedVariables false
set_option linter.unusedSimpArgs false
set_option maxRecDepth 100000
open Go.RowKit Mem Copy Rel Columns ColMath Numbers TidyRight TapeMath

theorem quiet_of {P : Program} {f : FuncId} {args : Array Value} {v : Value} (W : World) (h : ∀ W, Calls P f args W fun e w' => e = .returned v ∧ W = w') :
    ∀ q, Calls P f args (W.drewN q) fun e w' => e = .returned v ∧ ∃ n, w' = (W.drewN q).drewN n :=
  fun q => (h _).mono fun _ _ ⟨he, hw⟩ => ⟨he, 0, by rw [← hw]; rfl⟩
theorem powerAny (t : Nat) (ht : t ≤ 3) (w : World) : Calls Tryd.prog 49 #[.int .i64 t] w fun e w' => e = .returned (.int .i64 ((3 ^ t : Nat) : Int)) ∧ w = w' := by
  have : t = 0 ∨ t = 1 ∨ t = 2 ∨ t = 3 := by omega
  rcases this with rfl | rfl | rfl | rfl
  · exact power0 w
  · exact power1 w
  · exact power2 w
  · exact power3 w
theorem digitAny (c t : Nat) (hc : c ≤ 26) (ht : t ≤ 2) (w : World) : Calls Tryd.prog 50 #[.int .i64 c, .int .i64 t] w fun e w' => e = .returned (.int .i64 ((c / 3 ^ t % 3 : Nat) : Int)) ∧ w = w' := by
  have : t = 0 ∨ t = 1 ∨ t = 2 := by omega
  rcases this with rfl | rfl | rfl
  · show Calls Tryd.prog 50 #[.int .i64 c, .int .i64 0] w _
    go_enter Tryd.func50, Tryd.ntmps50
    go_wp2_with (go_at_call 49; refine (power0 _).mono ?_; rintro e w' ⟨rfl, rfl⟩)
    go_ret
    exact ⟨by simp, rfl⟩
  · show Calls Tryd.prog 50 #[.int .i64 c, .int .i64 1] w _
    go_enter Tryd.func50, Tryd.ntmps50
    go_wp2_with (go_at_call 49; refine (power1 _).mono ?_; rintro e w' ⟨rfl, rfl⟩)
    go_ret
    exact ⟨by simp, rfl⟩
  · show Calls Tryd.prog 50 #[.int .i64 c, .int .i64 2] w _
    go_enter Tryd.func50, Tryd.ntmps50
    go_wp2_with (go_at_call 49; refine (power2 _).mono ?_; rintro e w' ⟨rfl, rfl⟩)
    go_ret
    exact ⟨by simp, rfl⟩

/-- Where each tape goes in another order, and the column that is put so, tape by tape. -/
def invO (o : List Nat) : List Nat := (List.range o.length).map fun t => ((List.range o.length).find? fun j => o.getD j 0 == t).getD 0
def putTo (p : List Nat) (c : Nat) : Nat → Nat
  | 0 => 0
  | t + 1 => putTo p c t + c / 3 ^ t % 3 * 3 ^ (p.getD t 0)
def putFine2 : Bool := (List.range 4).all fun k => k == 0 || (orders k).all fun o => (List.range (wide k)).all fun c => putTo (invO o) c k == putN o c
theorem putFine2_true : putFine2 = true := by decide +kernel
theorem putTo_eq {k c : Nat} {o : List Nat} (h1 : 1 ≤ k) (h3 : k ≤ 3) (ho : o ∈ orders k) (hc : c < wide k) : putTo (invO o) c k = putN o c := by
  have h := putFine2_true
  unfold putFine2 at h
  have hk := List.all_eq_true.1 h k (List.mem_range.2 (by omega))
  rw [Bool.or_eq_true] at hk
  rcases hk with hk | hk
  · simp at hk; omega
  exact eq_of_beq (List.all_eq_true.1 (List.all_eq_true.1 hk o ho) c (List.mem_range.2 hc))
theorem invO_lt {k : Nat} {o : List Nat} (h1 : 1 ≤ k) (h3 : k ≤ 3) (ho : o ∈ orders k) : (invO o).length = k ∧ ∀ t, (invO o).getD t 0 ≤ 2 := by
  have : k = 1 ∨ k = 2 ∨ k = 3 := by omega
  have hb : ∀ l : List Nat, l ∈ [[0], [0, 1], [1, 0], [0, 1, 2], [0, 2, 1], [1, 0, 2], [1, 2, 0], [2, 0, 1], [2, 1, 0]] → ∀ t, l.getD t 0 ≤ 2 := fun l hl t => by
    simp at hl
    rcases hl with rfl | rfl | rfl | rfl | rfl | rfl | rfl | rfl | rfl
    all_goals (rcases t with _ | _ | _ | t <;> simp)
  rcases this with rfl | rfl | rfl
  all_goals simp [orders] at ho
  · subst ho; exact ⟨rfl, hb _ (by decide)⟩
  · rcases ho with rfl | rfl <;> exact ⟨rfl, hb _ (by decide)⟩
  · rcases ho with rfl | rfl | rfl | rfl | rfl | rfl <;> exact ⟨rfl, hb _ (by decide)⟩
theorem putTo_bound (p : List Nat) (c t : Nat) (hp : ∀ j, p.getD j 0 ≤ 2) : putTo p c t ≤ t * 18 := by
  induction t with
  | zero => exact Nat.le_refl _
  | succ t ih =>
    unfold putTo
    have h1 : c / 3 ^ t % 3 ≤ 2 := by omega
    have h2 : 3 ^ (p.getD t 0) ≤ 9 := by
      have : p.getD t 0 = 0 ∨ p.getD t 0 = 1 ∨ p.getD t 0 = 2 := by have := hp t; omega
      rcases this with h | h | h <;> rw [h] <;> decide
    have h3 := Nat.mul_le_mul h1 h2
    omega

end Go.Proofs.YtaimealknkhfbaaDoor.PutS
/- What the model's column without one of its tapes is.
   Conditions: stated at the theorem. -/
namespace Go.Proofs.YtaimealknkhfbaaDoor.LeftS
set_option linter.unusedVariables false
set_option linter.unusedSimpArgs false
set_option maxRecDepth 100000
open Go.RowKit Mem Copy Rel Columns ColMath Numbers TidyRight TapeMath PutS

set_option maxHeartbeats 4000000 in
/-- The model's column with one tape left out. -/
theorem leftS (n a c : Nat) (hn : n ≤ 3) (hc : c ≤ 26) (w : World) :
    Calls Tryd.prog 33 #[.int .i64 c, .int .i64 n, .int .i64 a] w fun e w' => e = .returned (.int .i64 ((leftN n a c : Nat) : Int)) ∧ ∃ m, w' = w.drewN m := by
  have HD := Lib.hid (fun t (ht : t ≤ 2) W => digitAny c t hc ht W)
  have HP := Lib.hid (fun t (ht : t ≤ 3) W => powerAny t ht W)
  unfold leftN
  go_enter Tryd.func33, Tryd.ntmps33
  go_wp2_with fail
  go_loopw [7, 8, 9] (fun s7 s8 s9 wr => ∃ t m : Nat, t ≤ n ∧ s9 = .int .i64 t ∧ s7 = .int .i64 (((leftTo a c t).1 : Nat) : Int) ∧ s8 = .int .i64 (((leftTo a c t).2 : Nat) : Int) ∧ wr = w.drewN m) (fun _ _ s9 _ => n - (intOf s9).toNat)
  case atStart => exact ⟨0, 0, Nat.zero_le _, rfl, rfl, rfl, rfl⟩
  case round =>
    obtain ⟨t, m, ht, rfl, rfl, rfl, rfl⟩ := hrel
    by_cases hlt : t < n
    · by_cases hta : t = a
      · have hne : ((t : Int) != (a : Int)) = false := by simp [hta]
        have HE := Lib.hid (show leftTo a c (t + 1) = leftTo a c t by show (if t = a then _ else _) = _; rw [if_pos hta])
        clear hta
        go_wp2_with fail
        go_roundw
        case rel => exact ⟨t + 1, m, hlt, by go_num, by rw [HE.out], by rw [HE.out], rfl⟩
        case measure => simp [intOf]; omega
      · have hne : ((t : Int) != (a : Int)) = true := by simp; omega
        have HE := Lib.hid (show leftTo a c (t + 1) = ((leftTo a c t).1 + c / 3 ^ t % 3 * 3 ^ (leftTo a c t).2, (leftTo a c t).2 + 1) by show (if t = a then _ else _) = _; rw [if_neg hta])
        have hb1 := leftTo_le a c t
        have hb2 := leftTo_bound a c t
        obtain ⟨x, hx⟩ : ∃ x, x = (leftTo a c t).1 := ⟨_, rfl⟩
        obtain ⟨y, hy⟩ : ∃ y, y = (leftTo a c t).2 := ⟨_, rfl⟩
        rw [← hx, ← hy] at HE
        rw [← hx, ← hy] at hb2
        rw [← hy] at hb1
        rw [← hx, ← hy]
        have hx8 : x ≤ 8 := by
          have : y = 0 ∨ y = 1 ∨ y = 2 := by omega
          rcases this with h | h | h <;> rw [h] at hb2 <;> omega
        clear hb2 hta hx
        obtain ⟨d, hd⟩ : ∃ d, d = c / 3 ^ t % 3 := ⟨_, rfl⟩
        have HDT := Lib.hid (fun W => HD.out t (by omega) W)
        rw [← hd] at HDT HE
        have hd2 : d ≤ 2 := by omega
        obtain ⟨z, hz⟩ : ∃ z, z = 3 ^ y := ⟨_, rfl⟩
        have HPT := Lib.hid (fun W => HP.out y (by omega) W)
        rw [← hz] at HPT HE
        have hz9 : z ≤ 9 := by
          have : y = 0 ∨ y = 1 ∨ y = 2 := by omega
          rcases this with h | h | h <;> rw [hz, h] <;> decide
        have hdz : d * z ≤ 18 := Nat.mul_le_mul hd2 hz9
        have hw1 : IntKind.i64.wrap ((d : Int) * (z : Int)) = (d : Int) * (z : Int) := by rw [← Int.natCast_mul, IntKind.wrap_i64]; omega
        have hw2 : IntKind.i64.wrap ((x : Int) + (d : Int) * (z : Int)) = (x : Int) + (d : Int) * (z : Int) := by rw [← Int.natCast_mul, IntKind.wrap_i64]; omega
        clear hd hz hy
        go_wp2_with (first | (go_at_call 50; refine (HDT.out _).mono ?_; rintro e w' ⟨rfl, rfl⟩) | (go_at_call 49; refine (HPT.out _).mono ?_; rintro e w' ⟨rfl, rfl⟩))
        go_roundw
        case rel => exact ⟨t + 1, _, hlt, by go_num, by rw [HE.out]; simp, by rw [HE.out]; go_num, rfl⟩
        case measure => simp [intOf]; omega
    · obtain rfl : t = n := by omega
      go_wp2
      go_ret
      exact ⟨rfl, _, rfl⟩
end Go.Proofs.YtaimealknkhfbaaDoor.LeftS
