
/- What the program's function that makes an automaton by a rule hands back.
   Conditions: stated at each theorem. -/
import Derived.Test.YtcpcbmappcndcaaDoorFX8
import Derived.Test.YtcpcbmappcndcaaDoorFX9
import Derived.Deep.QuietTactic
import Derived.BigQuiet
namespace Go.Proofs.YtcpcbmappcndcaaDoor.Automaton
set_option linter.unusedVariables false
set_option linter.unusedSimpArgs false
open Go.RowKit Mem Copy Rel Valid Heap Columns Numbers Bld TidyMath TidyRight SpecRight

/-- The struct in block ob is put together, the accepting states being another's list. -/
structure Aut (w : World) (B ob : Nat) (k : Int) (va vn : Value) (ints items : List (Value × List Value)) : Prop where
  own : Own w B 2 (ints ++ items)
  nxt : Lst w B 45 vn (items.map Prod.fst)
  at_ : w.heap[ob]? = some (.cells #[.int .i64 k, .int .i64 0, va, vn] 27 (0, 0))
  obB : B ≤ ob
section
variable {w w' : World} {B ob : Nat} {k : Int} {va vn : Value} {ints items : List (Value × List Value)}
theorem Aut.lt (h : Aut w B ob k va vn ints items) : ob < w.heap.size := lt_of_block h.at_
theorem Aut.below (h : Aut w B ob k va vn ints items) (hb : Below w.heap.size w w') : Aut w' B ob k va vn ints items :=
  ⟨h.own.below hb, h.nxt.below hb, by rw [hb.block ob h.lt]; exact h.at_, h.obB⟩
theorem Aut.addInt (h : Aut w B ob k va vn ints items) (hb : Below w.heap.size w w') {v : Value} {xs : List Value} (hl : Lst w' B 2 v xs) (hn : ∀ k, v.ownBlock = some k → w.heap.size ≤ k) : Aut w' B ob k va vn ((v, xs) :: ints) items :=
  ⟨h.own.addNew hb hl hn, h.nxt.below hb, by rw [hb.block ob h.lt]; exact h.at_, h.obB⟩
theorem Aut.setInt (l1 l2 : List (Value × List Value)) {g n cap : Nat} {xs : List Value} (h : Aut w B ob k va vn (l1 ++ (.slice (some ⟨g, 0, none⟩) n cap, xs) :: l2) items) {i : Nat} (hi : i < xs.length) (u : Value) :
    Aut (w.setCell ⟨g, i, none⟩ u) B ob k va vn (l1 ++ (.slice (some ⟨g, 0, none⟩) n cap, xs.set i u) :: l2) items := by
  have ho : Own w B 2 (l1 ++ (.slice (some ⟨g, 0, none⟩) n cap, xs) :: (l2 ++ items)) := by have := h.own; rw [List.append_assoc] at this; exact this
  have hv := Own.get l1 (l2 ++ items) ho
  refine ⟨?_, h.nxt.setOther (hv.apart h.nxt (by decide) g rfl) u, ?_, h.obB⟩
  · rw [List.append_assoc]; exact Own.set l1 (l2 ++ items) ho hi u
  · rw [Below.heap_setCell _ _ _ _ (fun e => block_apart hv h.at_ (by decide) (by show some g = some ob; rw [e]))]; exact h.at_
theorem Aut.obNext {vn' v : Value} (h : Aut w B ob k va vn ints items) (hp : Pushed w w' B 45 vn vn' (items.map Prod.fst) v) : w'.heap[ob]? = some (.cells #[.int .i64 k, .int .i64 0, va, vn] 27 (0, 0)) := by
  rw [hp.grow.block ob h.lt fun e => block_apart h.nxt h.at_ (by decide) e.symm]; exact h.at_
theorem Aut.pushNext (l1 l2 : List (Value × List Value)) {vn' v : Value} {xs : List Value} (h : Aut w B ob k va vn (l1 ++ (v, xs) :: l2) items) (hp : Pushed w w' B 45 vn vn' (items.map Prod.fst) v) :
    Aut (w'.setCell ⟨ob, 3, none⟩ vn') B ob k va vn' (l1 ++ l2) (items ++ [(v, xs)]) := by
  have hob := h.obNext hp
  have ho : Own w' B 2 (l1 ++ (v, xs) :: l2 ++ items) := h.own.grown hp.grow fun k hk p hm => h.nxt.apart (h.own.lst p hm) (by decide) k hk
  refine ⟨Own.perm (ho.setOther (a := ⟨ob, 3, none⟩) hob (by decide) _) ?_, ?_, cells_set hob 3 vn', h.obB⟩
  · have h1 : (l1 ++ (v, xs) :: l2 ++ items).Perm ((v, xs) :: (l1 ++ l2 ++ items)) := by
      rw [List.append_assoc, List.append_assoc]
      exact List.perm_middle
    have h2 : ((v, xs) :: (l1 ++ l2 ++ items)).Perm (l1 ++ l2 ++ (items ++ [(v, xs)])) := by
      rw [← List.append_assoc]
      exact (List.perm_append_singleton _ _).symm
    exact h1.trans h2
  · rw [List.map_append]
    exact hp.lst.setOther (block_apart hp.lst hob (by decide)) _
/-- The rows that are put together, as they read. -/
theorem Aut.rows (h : Aut w B ob k va vn [] items) {nx : List (List Int)} (hn : items.map Prod.snd = nx.map fun r => r.map (Value.int .i64)) : Built w B (.slice none 0 0) vn [] nx :=
  ⟨Lst.nil _ _ _, items, by have := h.own; rwa [List.nil_append] at this, h.nxt, hn⟩
theorem built_rows {w : World} {B : Nat} {vn : Value} {nx : List (List Int)} (hb : Built w B (.slice none 0 0) vn [] nx) (C : Nat) (hC : w.heap.size ≤ C) : IntRows w C vn nx := by
  obtain ⟨va', vn', e, -, hr⟩ := hb.reads C hC 0 0
  simp at e
  obtain ⟨-, rfl⟩ := e
  exact hr
theorem built_with {w : World} {B : Nat} {va vn : Value} {acc : List Bool} {nx : List (List Int)} (hb : Built w B (.slice none 0 0) vn [] nx) (ha : Lst w B 4 va (acc.map Value.bool)) : Built w B va vn acc nx := ⟨ha, hb.rows⟩
/-- A list that is written out. -/
theorem Lst.lit (w : World) (B : Nat) (t : TypeId) (c : Array Value) (hB : B ≤ w.heap.size) (hc : c.size ≤ 1000) :
    Lst (w.alloc (.cells c t)) B t (.slice (some ⟨w.heap.size, 0, none⟩) c.size c.size) c.toList :=
  ⟨by simp, .inr ⟨w.heap.size, c.size, c, by simp, hB, heap_alloc_new w _, by simp, by unfold maxLen; omega, by simp, by rw [Array.length_toList, Nat.mul_one]; exact List.take_of_length_le (by simp)⟩⟩
end

/-- The rows of an automaton of n states that is told by a rule. -/
def autN (k n : Nat) (nx : Nat → Nat → Int) : List (List Int) := (List.range n).map fun s => (List.range (wide k)).map (nx s)

set_option maxRecDepth 100000 in
set_option maxHeartbeats 8000000 in
theorem automaton (k : Nat) (h1 : 1 ≤ k) (h3 : k ≤ 3) (va : Value) (acc : List Bool) (w : World) (B : Nat) (hacc : Bools w B va acc) (hB : B ≤ w.heap.size) (hn : acc.length ≤ 100000) (fid : FuncId) (hcf : ∀ (args : Array Value) (W : World), (callFunc fid args).run Tryd.prog W = .ok (.enter fid args) W) (caps : Array Value) (nx : Nat → Nat → Int)
    (hC : ∀ W, Below w.heap.size w W → ∀ s c : Nat, s < acc.length → c < wide k → Calls Tryd.prog fid (#[.int .i64 s, lettersV k c] ++ caps) W fun e w' => e = .returned (.int .i64 (nx s c)) ∧ Below W.heap.size W w') :
    Calls Tryd.prog 62 #[.int .i64 k, va, .func (.func fid) #[] caps] w fun e w' => ∃ vn, e = .returned (.agg #[.int .i64 k, .int .i64 0, va, vn]) ∧ Built w' w.heap.size (.slice none 0 0) vn [] (autN k acc.length nx) ∧ Below w.heap.size w w' := by
  have hcnt := countAny (k : Int) (by omega) (by omega)
  have hwk : widthOf (k : Int) = ((wide k : Nat) : Int) := by
    have : k = 1 ∨ k = 2 ∨ k = 3 := by omega
    rcases this with rfl | rfl | rfl <;> rfl
  rw [hwk] at hcnt
  have hw26 : wide k ≤ 26 := by have := wide_cases h1 h3; omega
  have HL := Lib.hid (fun (c : Nat) (hc : c < 26) W => lettersAny k h1 h3 (c : Int) (by omega) (by omega) W)
  have HAU := Lib.hid (show ∀ n, n = acc.length → autN k n nx = (List.range n).map fun s => (List.range (wide k)).map (nx s) from fun n _ => rfl)
  obtain ⟨m, hm⟩ : ∃ m, m = wide k := ⟨_, rfl⟩
  rw [← hm] at hcnt hw26 hC HAU
  obtain ⟨aa, ba, oa, ca, rfl, hma, -, -⟩ := hacc
  obtain ⟨n, hnn⟩ : ∃ n, n = acc.length := ⟨_, rfl⟩
  rw [← hnn] at hma hn hC HAU
  rw [← hnn]
  have HC := Lib.hid hcnt
  have HCC := Lib.hid hC
  have hmk := run_make_row' (P := Tryd.prog) 45 2 (.int .i64 0) 8 Tryd.underlying45 info2 rfl .i64 .i64 m (by omega) (by omega)
  have HAE := Lib.hid (HAU.out n rfl)
  clear hcnt hwk hm hC hnn HAU
  have HA0 := Lib.hid (show Aut ((w.alloc (.cells #[Value.int .i64 0, .int .i64 0, .slice none 0 0, .slice none 0 0] 27)).alloc (.cells #[Value.int .i64 k, .int .i64 0, .slice aa n ca, .slice none 0 0] 27)) (w.heap.size + 1) (w.heap.size + 1) k (.slice aa n ca) (.slice none 0 0) [] [] from
    ⟨Own.nil _ _ _, Lst.nil _ _ _, by have := heap_alloc_new (w.alloc (.cells #[Value.int .i64 0, .int .i64 0, .slice none 0 0, .slice none 0 0] 27)) (.cells #[Value.int .i64 k, .int .i64 0, .slice aa n ca, .slice none 0 0] 27); rwa [size_alloc'] at this, Nat.le_refl _⟩)
  have HB0 := Lib.hid (show Kp w ((w.alloc (.cells #[Value.int .i64 0, .int .i64 0, .slice none 0 0, .slice none 0 0] 27)).alloc (.cells #[Value.int .i64 k, .int .i64 0, .slice aa n ca, .slice none 0 0] 27)) from (Below.refl _ _).alloc (by simp) _)
  go_enter Tryd.func62, Tryd.ntmps62
  go_wp2_with fail
  go_loopw [8, 9, 10, 16, 24] (fun _ _ _ s16 _ wr => ∃ (i : Nat) (vn : Value) (items : List (Value × List Value)), i ≤ n ∧ s16 = .int .i64 i ∧ Aut wr (w.heap.size + 1) (w.heap.size + 1) k (.slice aa n ca) vn [] items ∧
    items.map Prod.snd = (List.range i).map (fun s => tv m (nx s)) ∧ Kp w wr) (fun _ _ _ s16 _ _ => n - (intOf s16).toNat)
  case atStart => exact ⟨0, _, [], Nat.zero_le _, rfl, HA0.out, rfl, HB0.out⟩
  case round =>
    obtain ⟨i, vn, items, hi, rfl, haut, hit, hbel⟩ := hrel
    have HD := Lib.hid haut
    have HI := Lib.hid hit
    have HB := Lib.hid hbel
    clear haut hit hbel HA0 HB0
    by_cases hlt : i < n
    · obtain ⟨g, hg⟩ : ∃ g, g = wr.heap.size := ⟨_, rfl⟩
      have HA1 := Lib.hid (show Aut (wr.alloc (.cells (madeCells #[Value.int .i64 0] m) 2)) (w.heap.size + 1) (w.heap.size + 1) k (.slice aa n ca) vn [(.slice (some ⟨g, 0, none⟩) m m, tv m fun c => if c < 0 then nx i c else 0)] items from by
        have h1 := Lst.made wr (w.heap.size + 1) 2 (.int .i64 0) m (Kp.size HB.out) (by unfold maxLen; omega)
        rw [tv_rep] at h1
        rw [hg]
        exact HD.out.addInt ((Below.refl _ _).alloc (Nat.le_refl _) _) h1 (fun q hq => by cases hq; exact Nat.le_refl _))
      have HB1 := Lib.hid (show Kp w (wr.alloc (.cells (madeCells #[Value.int .i64 0] m) 2)) from Below.alloc HB.out (Kp.size HB.out) _)
      have HCI := Lib.hid (fun W (hb : Kp w W) (c : Nat) (hc : c < m) => HCC.out W (Kp.base hb) i c hlt hc)
      go_wp2_with (go_at_call 55; refine (HC.out _).mono ?_; rintro e w' ⟨rfl, rfl⟩)
      rw [← hg]
      clear hg
      go_loopw [10, 24] (fun _ s24 wr' => ∃ c : Nat, c ≤ m ∧ s24 = .int .i64 c ∧ Aut wr' (w.heap.size + 1) (w.heap.size + 1) k (.slice aa n ca) vn [(.slice (some ⟨g, 0, none⟩) m m, tv m fun q => if q < c then nx i q else 0)] items ∧ Kp w wr') (fun _ s24 _ => m - (intOf s24).toNat)
      case atStart => exact ⟨0, Nat.zero_le _, rfl, HA1.out, HB1.out⟩
      case round =>
        obtain ⟨c, hc, rfl, haut, hbel⟩ := hrel
        have HD2 := Lib.hid haut
        have HB2 := Lib.hid hbel
        clear haut hbel HA1 HB1 hmk
        by_cases hlc : c < m
        · have HLJ := Lib.hid (HL.out c (by omega))
          go_wp2_with fail
          refine (HLJ.out _).mono ?_
          rintro e w1 ⟨rfl, hb⟩
          have HD3 := Lib.hid (HD2.out.below hb)
          have HB3 := Lib.hid (show Kp w w1 from Below.trans HB2.out (hb.mono (Kp.size HB2.out)))
          clear hb
          go_wp2_with fail
          refine (HCI.out _ HB3.out c hlc).mono ?_
          rintro e w2 ⟨rfl, hb⟩
          have HD4 := Lib.hid (HD3.out.below hb)
          have HB4 := Lib.hid (show Kp w w2 from Below.trans HB3.out (hb.mono (Kp.size HB3.out)))
          have c9 := (Own.get [] _ HD4.out.own).cellOf (i := c) (by rw [tv_length]; exact hlc)
          have f9 := (Own.get [] _ HD4.out.own).free c
          rw [tv_get] at c9
          have hgl := (Own.get [] _ HD4.out.own).lt (k := g) rfl
          clear hb HD3 HB3
          go_wp2_with fail
          go_roundw
          case rel =>
            have h1 := Aut.setInt [] [] (i := c) HD4.out (by rw [tv_length]; exact hlc) (.int .i64 (nx i c))
            rw [tv_set] at h1
            refine ⟨c + 1, hlc, by go_num, ?_, HB4.out.setCell ((Own.get [] _ HD4.out.own).ge (k := g) rfl) _⟩
            rw [show (fun q => if q < c + 1 then nx i q else 0) = (fun q => if q = c then nx i c else if q < c then nx i q else 0) from funext fun q => by
              by_cases e : q = c
              · subst e; simp
              · have : (q < c + 1) = (q < c) := by apply propext; constructor <;> intro h <;> omega
                simp only [if_neg e, this]]
            exact h1
          case measure => simp [intOf]; omega
        · obtain rfl : c = m := by omega
          have HE4 := Lib.hid (show Aut wr (w.heap.size + 1) (w.heap.size + 1) k (.slice aa n ca) vn [(.slice (some ⟨g, 0, none⟩) c c, tv c (nx i))] items from by
            have h1 := HD2.out
            rw [tv_congr (S := nx i) (fun q hq => by rw [if_pos hq])] at h1
            exact h1)
          have HIL := Lib.hid (show (items.map Prod.fst).length ≤ 100000000 from by
            have := congrArg List.length HI.out
            rw [List.length_map, List.length_map, List.length_range] at this
            rw [List.length_map]; omega)
          have HS4 := Lib.hid (Kp.size HB2.out)
          have q3 := cells_get HE4.out.at_ 3
          have z3 := cells_free HE4.out.at_ 3
          have hl4 := HE4.out.lt
          simp at q3
          obtain ⟨a0, n0, c0, rfl, -⟩ := HE4.out.nxt.shape'
          go_wp2_with (at_builtin; refine wpList_push rfl _ _ 23 rfl 45 (.slice none 0 0) 24 Tryd.underlying23 info54 (by decide) (by decide) (w.heap.size + 1) (.slice a0 n0 c0) _ (.slice (some ⟨g, 0, none⟩) c c) HE4.out.nxt HS4.out rfl HIL.out rfl _ rfl rfl ?_; intro v5 w5 hp5; obtain ⟨a5, n5, cp5, rfl, HN5⟩ := hp5.lst.shape'; have o5 := HE4.out.obNext hp5; have q5 := (cells_get o5 3); have z5 := cells_free o5 3; have hl5 := (lt_of_block o5); have HE5 := Lib.hid (HE4.out.pushNext [] [] hp5); have HB5 := Lib.hid ((Below.grown HB2.out hp5.grow HS4.out (fun q hq => HE4.out.nxt.ge hq)).setCell (p := ⟨w.heap.size + 1, 3, none⟩) HE4.out.obB (.slice a5 n5 cp5)); simp at q5; clear hp5 o5)
          go_roundw
          case rel =>
            have h1 := HE5.out
            rw [List.nil_append] at h1
            refine ⟨i + 1, _, _, hlt, by go_num, h1, ?_, HB5.out⟩
            rw [List.map_append, HI.out, List.range_succ, List.map_append]; rfl
          case measure => simp [intOf]; omega
    · obtain rfl : i = n := by omega
      have hres := Kp.res HB.out
      obtain ⟨a5, n5, cp6, rfl, -⟩ := HD.out.nxt.shape'
      have y0 := cells_get HD.out.at_ 0
      have y1 := cells_get HD.out.at_ 1
      have y2 := cells_get HD.out.at_ 2
      have y3 := cells_get HD.out.at_ 3
      have hly := HD.out.lt
      have r0 := cells_get hres 0
      have r1 := cells_get hres 1
      have r2 := cells_get hres 2
      have r3 := cells_get hres 3
      have f0 := cells_free hres 0
      have f1 := cells_free hres 1
      have f2 := cells_free hres 2
      have f3 := cells_free hres 3
      have hlS := lt_of_block hres
      have p0 := cells_set hres 0 (.int .i64 k)
      have p1 := cells_set p0 1 (.int .i64 0)
      have p2 := cells_set p1 2 (.slice aa i ca)
      have p3 := cells_set p2 3 (.slice a5 n5 cp6)
      simp at y0 y1 y2 y3 r0 r1 r2 r3 p3
      have g0 := cells_get p3 0
      have g1 := cells_get p3 1
      have g2 := cells_get p3 2
      have g3 := cells_get p3 3
      simp at g0 g1 g2 g3
      have HG := Lib.hid (And.intro g0 (And.intro g1 (And.intro g2 g3)))
      have HRW := Lib.hid (show items.map Prod.snd = (autN k i nx).map fun r => r.map (Value.int .i64) from by
        rw [HI.out, HAE.out, List.map_map]
        refine List.map_congr_left fun q _ => ?_
        show tv m (nx q) = ((List.range m).map (nx q)).map (Value.int .i64)
        unfold tv; rw [List.map_map]; rfl)
      clear p0 p1 p2 p3 g0 g1 g2 g3 hres hmk
      go_wp2_with fail
      obtain ⟨g0, g1, g2, g3⟩ := HG.out
      refine bodyPost_ret (v := .agg #[.int .i64 k, .int .i64 0, .slice aa i ca, .slice a5 n5 cp6]) (by simp [results, Tryd.results62, go_sem, g0, g1, g2, g3]) rfl ⟨.slice a5 n5 cp6, rfl, ?_, ?_⟩
      · have hset : ∀ (W : World) (j : Nat) (u : Value), Aut W (w.heap.size + 1) (w.heap.size + 1) k (.slice aa i ca) (.slice a5 n5 cp6) [] items → Aut (W.setCell ⟨w.heap.size, j, none⟩ u) (w.heap.size + 1) (w.heap.size + 1) k (.slice aa i ca) (.slice a5 n5 cp6) [] items := fun W j u h => by
          have hne : ∀ (v : Value) (xs : List Value) (t : TypeId), Lst W (w.heap.size + 1) t v xs → v.ownBlock ≠ some w.heap.size := fun v xs t hl e => by have := hl.ge e; omega
          refine ⟨⟨fun p hp => (h.own.lst p hp).setOther (hne _ _ _ (h.own.lst p hp)) u, h.own.apart⟩, h.nxt.setOther (hne _ _ _ h.nxt) u, ?_, h.obB⟩
          rw [Below.heap_setCell _ _ _ _ (fun e => by have e : w.heap.size + 1 = w.heap.size := e; omega)]
          exact h.at_
        exact ((hset _ 3 _ (hset _ 2 _ (hset _ 1 _ (hset _ 0 _ HD.out)))).rows HRW.out).mono (Nat.le_succ _)
      · have HBW := Kp.base HB.out
        exact (((HBW.setCell (p := ⟨w.heap.size, 0, none⟩) (Nat.le_refl _) _).setCell (p := ⟨w.heap.size, 1, none⟩) (Nat.le_refl _) _).setCell (p := ⟨w.heap.size, 2, none⟩) (Nat.le_refl _) _).setCell (p := ⟨w.heap.size, 3, none⟩) (Nat.le_refl _) _
end Go.Proofs.YtcpcbmappcndcaaDoor.Automaton
/- Plain facts on automata that read the columns of another one changed: with a tape left out, with tapes in another order.
   Conditions: stated at each theorem. -/
namespace Go.Proofs.YtcpcbmappcndcaaDoor.TapeMath
set_option linter.unusedVariables false
set_option linter.unusedSimpArgs false
set_option maxRecDepth 100000
open Go.RowKit Mem Copy Rel Valid Heap Columns SpecFiner Numbers ColMath TidyMath TidyRight SpecRight Automaton

/-- The automaton that reads columns as another one reads those to which they are changed; it stays where they are pads alone. -/
def reL (l : L) (k : Nat) (φ : Nat → Nat) : L := ⟨k, l.start, l.acc, (List.range l.acc.length).map fun s => (List.range (wide k)).map fun c => if φ c = wide l.k then s else (l.nx.getD s []).getD (φ c) 0⟩
/-- Where a column leads. -/
def reN (l : L) (φ : Nat → Nat) (s c : Nat) : Int := ((if φ c = wide l.k then s else (l.nx.getD s []).getD (φ c) 0 : Nat) : Int)
theorem reL_ok {l : L} {k : Nat} {φ : Nat → Nat} (h : l.Ok) (k0 : 1 ≤ k) (k3 : k ≤ 3) (hφ : ∀ c, c < wide k → φ c ≤ wide l.k) : (reL l k φ).Ok := by
  have hr : ∀ s, s < l.acc.length → (reL l k φ).nx.getD s [] = (List.range (wide k)).map fun c => if φ c = wide l.k then s else (l.nx.getD s []).getD (φ c) 0 := fun s hs => by
    show ((List.range l.acc.length).map _).getD s [] = _
    simp [List.getD, hs]
  refine ⟨k0, k3, h.st, by simp [reL], fun s hs => ?_, fun s hs c hc => ?_⟩
  · rw [hr s hs]; simp [reL]
  · rw [hr s hs]
    have hc' : c < wide k := hc
    have e : ((List.range (wide k)).map fun c => if φ c = wide l.k then s else (l.nx.getD s []).getD (φ c) 0).getD c 0 = if φ c = wide l.k then s else (l.nx.getD s []).getD (φ c) 0 := by simp [List.getD, hc']
    rw [e]
    show _ < l.acc.length
    split
    · exact hs
    · exact h.lt s hs _ (by have := hφ c hc; omega)
theorem reL_rel (l : L) (k : Nat) (φ : Nat → Nat) : relOf (reL l k φ) = ⟨k, l.start, l.acc, autN k l.acc.length (reN l φ)⟩ := by
  unfold relOf reL autN
  simp only [List.map_map]
  congr 1
  refine List.map_congr_left fun s _ => ?_
  simp [ofN, reN, Function.comp]
theorem reL_len (l : L) (k : Nat) (φ : Nat → Nat) : (reL l k φ).acc.length = l.acc.length := rfl

/-- A column without a tape, and how many tapes have been taken. -/
def leftTo (at_ c : Nat) : Nat → Nat × Nat
  | 0 => (0, 0)
  | t + 1 => if t = at_ then leftTo at_ c t else ((leftTo at_ c t).1 + c / 3 ^ t % 3 * 3 ^ (leftTo at_ c t).2, (leftTo at_ c t).2 + 1)
def leftN (k at_ c : Nat) : Nat := (leftTo at_ c k).1
theorem leftTo_le (at_ c t : Nat) : (leftTo at_ c t).2 ≤ t := by
  induction t with
  | zero => exact Nat.le_refl _
  | succ t ih => unfold leftTo; split <;> (try simp only) <;> omega
theorem leftTo_bound (at_ c t : Nat) : (leftTo at_ c t).1 ≤ 3 ^ (leftTo at_ c t).2 - 1 := by
  induction t with
  | zero => simp [leftTo]
  | succ t ih =>
    unfold leftTo
    split
    · exact ih
    · simp only
      have h1 : c / 3 ^ t % 3 ≤ 2 := by omega
      have h2 : 1 ≤ 3 ^ (leftTo at_ c t).2 := Nat.one_le_pow _ _ (by decide)
      have h3 : c / 3 ^ t % 3 * 3 ^ (leftTo at_ c t).2 ≤ 2 * 3 ^ (leftTo at_ c t).2 := Nat.mul_le_mul_right _ h1
      rw [Nat.pow_succ]
      omega
/-- What letters are left without those of a tape. -/
def letW (k at_ c t : Nat) : Int := if t < at_ then letT k c t else if t < 2 then letT k c (t + 1) else 35
def leftFine : Bool := (List.range 3).all fun k => k == 0 || (List.range 4).all fun a => decide (k < a) || (List.range (wide (k + 1))).all fun c => decide (leftN (k + 1) a c ≤ wide k) && (List.range 3).all fun t => letW (k + 1) a c t == letT k (leftN (k + 1) a c : Nat) t
theorem leftFine_true : leftFine = true := by decide +kernel
theorem left_fin {k at_ c : Nat} (h1 : 1 ≤ k) (h2 : k ≤ 2) (ha : at_ ≤ k) (hc : c < wide (k + 1)) : leftN (k + 1) at_ c ≤ wide k ∧ ∀ t, t < 3 → letW (k + 1) at_ c t = letT k (leftN (k + 1) at_ c : Nat) t := by
  have h := leftFine_true
  unfold leftFine at h
  have hk := List.all_eq_true.1 h k (List.mem_range.2 (by omega))
  rw [Bool.or_eq_true] at hk
  rcases hk with hk | hk
  · simp at hk; omega
  have h4 := List.all_eq_true.1 hk at_ (List.mem_range.2 (by omega))
  rw [Bool.or_eq_true] at h4
  rcases h4 with h4 | h4
  · simp at h4; omega
  have h5 := List.all_eq_true.1 h4 c (List.mem_range.2 hc)
  rw [Bool.and_eq_true] at h5
  exact ⟨of_decide_eq_true h5.1, fun t ht => eq_of_beq (List.all_eq_true.1 h5.2 t (List.mem_range.2 ht))⟩

/-- A column with the tapes in another order. -/
def putN (o : List Nat) (c : Nat) : Nat := ((List.range o.length).map fun t => c / 3 ^ (o.getD t 0) % 3 * 3 ^ t).foldl (· + ·) 0
def orders (k : Nat) : List (List Nat) := if k = 1 then [[0]] else if k = 2 then [[0, 1], [1, 0]] else [[0, 1, 2], [0, 2, 1], [1, 0, 2], [1, 2, 0], [2, 0, 1], [2, 1, 0]]
def putFine : Bool := (List.range 4).all fun k => k == 0 || (orders k).all fun o => (List.range (wide k)).all fun c => decide (putN o c < wide k) && (List.range 3).all fun t => (if t < k then letT k c (o.getD t 0) else 35) == letT k (putN o c : Nat) t
theorem putFine_true : putFine = true := by decide +kernel
theorem put_fin {k c : Nat} {o : List Nat} (h1 : 1 ≤ k) (h3 : k ≤ 3) (ho : o ∈ orders k) (hc : c < wide k) : putN o c < wide k ∧ ∀ t, t < 3 → (if t < k then letT k c (o.getD t 0) else 35) = letT k (putN o c : Nat) t := by
  have h := putFine_true
  unfold putFine at h
  have hk := List.all_eq_true.1 h k (List.mem_range.2 (by omega))
  rw [Bool.or_eq_true] at hk
  rcases hk with hk | hk
  · simp at hk; omega
  have h4 := List.all_eq_true.1 hk o ho
  have h5 := List.all_eq_true.1 h4 c (List.mem_range.2 hc)
  rw [Bool.and_eq_true] at h5
  exact ⟨of_decide_eq_true h5.1, fun t ht => eq_of_beq (List.all_eq_true.1 h5.2 t (List.mem_range.2 ht))⟩
end Go.Proofs.YtcpcbmappcndcaaDoor.TapeMath
/- Plain facts on columns with one tape more, and on the automaton that goes on with a word on one of its tapes.
   Conditions: stated at each theorem. -/
namespace Go.Proofs.YtcpcbmappcndcaaDoor.WithMath
set_option linter.unusedVariables false
set_option linter.unusedSimpArgs false
set_option maxRecDepth 100000
open Go.RowKit Mem Copy Rel Valid Heap Columns SpecFiner Numbers ColMath TidyMath TidyRight SpecRight Automaton TapeMath

/-- A column with one tape more, and how many of the others have been taken. -/
def withTo (tape d c : Nat) : Nat → Nat × Nat
  | 0 => (d * 3 ^ tape, 0)
  | t + 1 => if t = tape then withTo tape d c t else ((withTo tape d c t).1 + c / 3 ^ (withTo tape d c t).2 % 3 * 3 ^ t, (withTo tape d c t).2 + 1)
def withN (k tape d c : Nat) : Nat := (withTo tape d c k).1
theorem withTo_le (tape d c t : Nat) : (withTo tape d c t).2 ≤ t := by
  induction t with
  | zero => exact Nat.le_refl _
  | succ t ih => unfold withTo; split <;> (try simp only) <;> omega
theorem withTo_bound (tape d c t : Nat) : (withTo tape d c t).1 ≤ d * 3 ^ tape + (3 ^ t - 1) := by
  induction t with
  | zero => simp [withTo]
  | succ t ih =>
    unfold withTo
    have h2 : 1 ≤ 3 ^ t := Nat.one_le_pow _ _ (by decide)
    split
    · rw [Nat.pow_succ]; omega
    · simp only
      have h1 : c / 3 ^ (withTo tape d c t).2 % 3 ≤ 2 := by omega
      have h3 : c / 3 ^ (withTo tape d c t).2 % 3 * 3 ^ t ≤ 2 * 3 ^ t := Nat.mul_le_mul_right _ h1
      rw [Nat.pow_succ]
      omega
/-- What letters there are with one more. -/
def letJ (tape d k c t : Nat) : Int := if t = tape then letA d else if t < tape then letT k c t else letT k c (t - 1)
def withFine : Bool := (List.range 3).all fun k => k == 0 || (List.range (k + 1)).all fun a => (List.range 3).all fun d => (List.range (wide k + 1)).all fun c => ((decide (c = wide k) && decide (d = 2)) || decide (withN (k + 1) a d c < wide (k + 1))) && decide (withN (k + 1) a d c ≤ wide (k + 1)) && (List.range 3).all fun t => letJ a d k c t == letT (k + 1) (withN (k + 1) a d c : Nat) t
theorem withFine_true : withFine = true := by decide +kernel
theorem with_fin {k a d c : Nat} (h1 : 1 ≤ k) (h2 : k ≤ 2) (ha : a ≤ k) (hd : d ≤ 2) (hc : c ≤ wide k) : ((c < wide k ∨ d < 2) → withN (k + 1) a d c < wide (k + 1)) ∧ withN (k + 1) a d c ≤ wide (k + 1) ∧ ∀ t, t < 3 → letJ a d k c t = letT (k + 1) (withN (k + 1) a d c : Nat) t := by
  have h := withFine_true
  unfold withFine at h
  have hk := List.all_eq_true.1 h k (List.mem_range.2 (by omega))
  rw [Bool.or_eq_true] at hk
  rcases hk with hk | hk
  · simp at hk; omega
  have h4 := List.all_eq_true.1 hk a (List.mem_range.2 (by omega))
  have h5 := List.all_eq_true.1 h4 d (List.mem_range.2 (by omega))
  have h6 := List.all_eq_true.1 h5 c (List.mem_range.2 (by omega))
  rw [Bool.and_eq_true, Bool.and_eq_true, Bool.or_eq_true, Bool.and_eq_true] at h6
  refine ⟨fun hcd => ?_, of_decide_eq_true h6.1.2, fun t ht => eq_of_beq (List.all_eq_true.1 h6.2 t (List.mem_range.2 ht))⟩
  rcases h6.1.1 with h7 | h7
  · have e1 := of_decide_eq_true h7.1
    have e2 := of_decide_eq_true h7.2
    omega
  · exact of_decide_eq_true h7

/-- The automaton of one tape that reads as another one does when all other tapes have ended. -/
def aloneN (k tape d : Nat) : Nat := withN k tape d (wide (k - 1))
def aloneL (l : L) (tape : Nat) : L := reL l 1 (aloneN l.k tape)
theorem alone_fin {k tape d : Nat} (h2 : 2 ≤ k) (h3 : k ≤ 3) (ht : tape < k) (hd : d < 2) : aloneN k tape d < wide k := by
  obtain ⟨j, rfl⟩ : ∃ j, k = j + 1 := ⟨k - 1, by omega⟩
  exact (with_fin (by omega) (by omega) (by omega) (by omega) (Nat.le_refl _)).1 (.inr hd)
theorem wide1 : wide 1 = 2 := rfl
theorem aloneL_ok {l : L} (h : l.Ok) (h2 : 2 ≤ l.k) {tape : Nat} (ht : tape < l.k) : (aloneL l tape).Ok :=
  reL_ok h (by decide) (by decide) fun c hc => Nat.le_of_lt (alone_fin h2 h.k3 ht hc)

/-- Whether the rest of a word on a tape, the others having ended, leads from a state to an accepting one. -/
def restS (l : L) (tape : Nat) (s : Nat) (u : List Nat) : Nat := u.foldl (fun s d => (l.nx.getD s []).getD (aloneN l.k tape d) 0) s
def restB (l : L) (tape s : Nat) (u : List Nat) : Bool := l.acc.getD (restS l tape s u) false
theorem restS_lt {l : L} (h : l.Ok) (h2 : 2 ≤ l.k) {tape : Nat} (ht : tape < l.k) {u : List Nat} (hu : ∀ d ∈ u, d < 2) {s : Nat} (hs : s < l.acc.length) : restS l tape s u < l.acc.length := by
  induction u generalizing s with
  | nil => exact hs
  | cons d u ih => exact ih (fun x hx => hu x (List.mem_cons_of_mem _ hx)) (h.lt s hs _ (alone_fin h2 h.k3 ht (hu d (List.mem_cons_self))))

/-- The automaton that has a word on one tape: for each state, and each number of letters that have been read, one of its own. -/
def fixR (l : L) (tape : Nat) (u : List Nat) (p i c : Nat) : Nat := (l.nx.getD p []).getD (withN l.k tape (u.getD i 2) c) 0 * (u.length + 1) + min (i + 1) u.length
def fixL (l : L) (tape : Nat) (u : List Nat) : L :=
  ⟨l.k - 1, l.start * (u.length + 1), (List.range (l.acc.length * (u.length + 1))).map fun x => restB l tape (x / (u.length + 1)) (u.drop (x % (u.length + 1))),
    (List.range (l.acc.length * (u.length + 1))).map fun x => (List.range (wide (l.k - 1))).map fun c => fixR l tape u (x / (u.length + 1)) (x % (u.length + 1)) c⟩
theorem fixL_len (l : L) (tape : Nat) (u : List Nat) : (fixL l tape u).acc.length = l.acc.length * (u.length + 1) := by simp [fixL]
theorem getD_le2 {u : List Nat} (hu : ∀ d ∈ u, d < 2) (i : Nat) : u.getD i 2 ≤ 2 := by
  by_cases h : i < u.length
  · have : u.getD i 2 = u[i] := by simp [List.getD, h]
    rw [this]; exact Nat.le_of_lt (hu _ (List.getElem_mem h))
  · have : u.getD i 2 = 2 := by simp [List.getD, List.getElem?_eq_none (Nat.le_of_not_lt h)]
    rw [this]; exact Nat.le_refl _
theorem fix_col {l : L} (h : l.Ok) (h2 : 2 ≤ l.k) {tape : Nat} (ht : tape < l.k) {u : List Nat} (hu : ∀ d ∈ u, d < 2) (i : Nat) {c : Nat} (hc : c < wide (l.k - 1)) : withN l.k tape (u.getD i 2) c < wide l.k := by
  have := h.k3
  obtain ⟨j, hj⟩ : ∃ j, l.k = j + 1 := ⟨l.k - 1, by omega⟩
  rw [hj] at hc ⊢
  exact (with_fin (by omega) (by omega) (by omega) (getD_le2 hu i) (Nat.le_of_lt hc)).1 (.inl hc)
theorem fixL_ok {l : L} (h : l.Ok) (h2 : 2 ≤ l.k) {tape : Nat} (ht : tape < l.k) {u : List Nat} (hu : ∀ d ∈ u, d < 2) : (fixL l tape u).Ok := by
  have hpos : ∀ q, q < l.acc.length → ∀ i, i ≤ u.length → q * (u.length + 1) + i < l.acc.length * (u.length + 1) := fun q hq i hi => by
    have := Nat.mul_le_mul_right (u.length + 1) (Nat.succ_le_of_lt hq)
    rw [Nat.succ_mul] at this
    omega
  have hrow : ∀ s, s < l.acc.length * (u.length + 1) → (fixL l tape u).nx.getD s [] = (List.range (wide (l.k - 1))).map fun c => fixR l tape u (s / (u.length + 1)) (s % (u.length + 1)) c := fun s hs => by
    show ((List.range _).map _).getD s [] = _
    simp [List.getD, hs]
  refine ⟨by show 1 ≤ l.k - 1; omega, by have := h.k3; show l.k - 1 ≤ 3; omega, ?_, by simp [fixL], fun s hs => ?_, fun s hs c hc => ?_⟩
  · rw [fixL_len]; exact hpos l.start h.st 0 (Nat.zero_le _)
  · rw [fixL_len] at hs
    rw [hrow s hs]; simp [fixL]
  · rw [fixL_len] at hs ⊢
    have hc' : c < wide (l.k - 1) := hc
    rw [hrow s hs]
    have e : ((List.range (wide (l.k - 1))).map fun c => fixR l tape u (s / (u.length + 1)) (s % (u.length + 1)) c).getD c 0 = fixR l tape u (s / (u.length + 1)) (s % (u.length + 1)) c := by simp [List.getD, hc']
    rw [e]
    have hp : s / (u.length + 1) < l.acc.length := by
      rw [Nat.div_lt_iff_lt_mul (Nat.succ_pos _)]; exact hs
    exact hpos _ (h.lt _ hp _ (fix_col h h2 ht hu _ hc')) _ (Nat.min_le_right _ _)
end Go.Proofs.YtcpcbmappcndcaaDoor.WithMath
/- The digits of a word.
   Conditions: stated at each theorem. -/
namespace Go.Proofs.YtcpcbmappcndcaaDoor.Digs
set_option linter.unusedVariables false
set_option linter.unusedSimpArgs false
open WordMath TidyRight SpecRight TapeMath WithMath

def dig (c : UInt8) : Nat := if c == 98 then 1 else 0
def digs (s : ByteArray) : List Nat := s.data.toList.map dig
theorem digs_len (s : ByteArray) : (digs s).length = s.size := by unfold digs; rw [List.length_map, Array.length_toList]; rfl
theorem digs_lt (s : ByteArray) : ∀ d ∈ digs s, d < 2 := by
  intro d hd
  obtain ⟨c, -, rfl⟩ := List.mem_map.1 hd
  unfold dig; split <;> omega
theorem digs_get {s : ByteArray} (hw : wordB s = true) {k : Nat} (hk : k < s.size) : ∃ d : Nat, d < 2 ∧ (digs s).getD k 2 = d ∧ (digs s)[k]'(by rw [digs_len]; exact hk) = d ∧ (s[k].toNat : Int) = 97 + (d : Int) := by
  have hl : k < s.data.toList.length := by simpa using hk
  have hkl : k < (digs s).length := by rw [digs_len]; exact hk
  have e : s[k] = s.data.toList[k] := rfl
  have hlet : letter s[k] = true := by
    unfold wordB good at hw
    rw [Bool.and_eq_true, List.all_eq_true] at hw
    rw [e]
    exact hw.1 _ (List.getElem_mem _)
  have eg : (digs s)[k] = dig s[k] := List.getElem_map (h := by rw [List.length_map]; exact hl) dig
  have ed : (digs s).getD k 2 = dig s[k] := by rw [List.getD_eq_getElem?_getD, List.getElem?_eq_getElem hkl, Option.getD_some, eg]
  refine ⟨dig s[k], ?_, ed, eg, ?_⟩
  · unfold dig; split <;> omega
  · rcases letter_or _ hlet with h | h
    · have : ¬ (s[k] == 98) = true := by
        intro h2
        rw [beq_iff_eq] at h2
        rw [h2] at h
        exact absurd h (by decide)
      unfold dig
      rw [if_neg this, h]; rfl
    · have : (s[k] == 98) = true := by
        rw [beq_iff_eq]
        exact UInt8.toNat_inj.1 (by simpa using (by omega : s[k].toNat = 98))
      unfold dig
      rw [if_pos this, h]; rfl
theorem word_len {s : ByteArray} (h : wordB s = true) : s.size ≤ 40 := by
  unfold wordB at h
  rw [Bool.and_eq_true, decide_eq_true_eq] at h
  exact h.2
/-- The rest of a word behind some letters. -/
theorem digs_drop (s : ByteArray) (i : Nat) : digs (s.extract i s.size) = (digs s).drop i := by
  unfold digs
  rw [← List.map_drop]
  congr 1
  rw [ByteArray.data_extract, Array.toList_extract]
  show List.take (s.size - i) (List.drop i s.data.toList) = _
  exact List.take_of_length_le (by rw [List.length_drop]; exact Nat.le_refl _)
theorem word_drop {s : ByteArray} (h : wordB s = true) (i : Nat) : wordB (s.extract i s.size) = true := by
  unfold wordB good at h ⊢
  rw [Bool.and_eq_true, List.all_eq_true, decide_eq_true_eq] at h
  rw [Bool.and_eq_true, List.all_eq_true, decide_eq_true_eq]
  refine ⟨fun c hc => h.1 c ?_, by rw [ByteArray.size_extract]; have := h.2; omega⟩
  rw [ByteArray.data_extract, Array.toList_extract] at hc
  exact List.mem_of_mem_drop (List.mem_of_mem_take hc)

/-- Where letters lead on one tape. -/
def runS (l : L) (s : Nat) (u : List Nat) : Nat := u.foldl (fun s d => (l.nx.getD s []).getD d 0) s
theorem runS_snoc (l : L) (s : Nat) (u : List Nat) (d : Nat) : runS l s (u ++ [d]) = (l.nx.getD (runS l s u) []).getD d 0 := by unfold runS; rw [List.foldl_append]; rfl
theorem runS_lt {l : L} (h : l.Ok) (hk : l.k = 1) {u : List Nat} (hu : ∀ d ∈ u, d < 2) {s : Nat} (hs : s < l.acc.length) : runS l s u < l.acc.length := by
  induction u generalizing s with
  | nil => exact hs
  | cons d u ih => exact ih (fun x hx => hu x (List.mem_cons_of_mem _ hx)) (h.lt s hs _ (by rw [hk]; exact hu d (List.mem_cons_self)))
theorem runS_alone {l : L} (h : l.Ok) (h2 : 2 ≤ l.k) {tape : Nat} (ht : tape < l.k) {u : List Nat} (hu : ∀ d ∈ u, d < 2) {s : Nat} (hs : s < l.acc.length) : runS (aloneL l tape) s u = restS l tape s u := by
  induction u generalizing s with
  | nil => rfl
  | cons d u ih =>
    have hd := hu d (List.mem_cons_self)
    have ha := alone_fin h2 h.k3 ht hd
    have e : ((aloneL l tape).nx.getD s []).getD d 0 = (l.nx.getD s []).getD (aloneN l.k tape d) 0 := by
      unfold aloneL reL
      have hw : d < wide 1 := hd
      simp only [List.getD_eq_getElem?_getD, List.getElem?_map, List.getElem?_range hs, List.getElem?_range hw, Option.map_some, Option.getD_some]
      rw [if_neg (Nat.ne_of_lt ha)]
    show runS (aloneL l tape) (((aloneL l tape).nx.getD s []).getD d 0) u = restS l tape ((l.nx.getD s []).getD (aloneN l.k tape d) 0) u
    rw [e]
    exact ih (fun x hx => hu x (List.mem_cons_of_mem _ hx)) (h.lt s hs _ ha)
theorem rest_alone {l : L} (h : l.Ok) (h2 : 2 ≤ l.k) {tape : Nat} (ht : tape < l.k) {u : List Nat} (hu : ∀ d ∈ u, d < 2) {s : Nat} (hs : s < l.acc.length) : (aloneL l tape).acc.getD (runS (aloneL l tape) s u) false = restB l tape s u := by
  rw [runS_alone h h2 ht hu hs]; rfl
end Go.Proofs.YtcpcbmappcndcaaDoor.Digs
/- What the model's functions on the tapes of a column hand back: a digit, a power of three, a column with the tapes in another order.
   Conditions: stated at each theorem. -/
namespace Go.Proofs.YtcpcbmappcndcaaDoor.PutS
set_option linter.unusedVariables false
set_option linter.unusedSimpArgs false
set_option maxRecDepth 100000
open Go.RowKit Mem Copy Rel Columns ColMath Numbers TidyRight TapeMath

theorem quiet_of {P : Program} {f : FuncId} {args : Array Value} {v : Value} (W : World) (h : ∀ W, Calls P f args W fun e w' => e = .returned v ∧ W = w') :
    ∀ q, Calls P f args (W.drewN q) fun e w' => e = .returned v ∧ ∃ n, w' = (W.drewN q).drewN n :=
  fun q => (h _).mono fun _ _ ⟨he, hw⟩ => ⟨he, 0, by rw [← hw]; rfl⟩
theorem powerAny (t : Nat) (ht : t ≤ 3) (w : World) : Calls Tryd.prog 52 #[.int .i64 t] w fun e w' => e = .returned (.int .i64 ((3 ^ t : Nat) : Int)) ∧ w = w' := by
  have : t = 0 ∨ t = 1 ∨ t = 2 ∨ t = 3 := by omega
  rcases this with rfl | rfl | rfl | rfl
  · exact power0 w
  · exact power1 w
  · exact power2 w
  · exact power3 w
theorem digitAny (c t : Nat) (hc : c ≤ 26) (ht : t ≤ 2) (w : World) : Calls Tryd.prog 45 #[.int .i64 c, .int .i64 t] w fun e w' => e = .returned (.int .i64 ((c / 3 ^ t % 3 : Nat) : Int)) ∧ w = w' := by
  have : t = 0 ∨ t = 1 ∨ t = 2 := by omega
  rcases this with rfl | rfl | rfl
  · show Calls Tryd.prog 45 #[.int .i64 c, .int .i64 0] w _
    go_enter Tryd.func45, Tryd.ntmps45
    go_wp2_with (go_at_call 52; refine (power0 _).mono ?_; rintro e w' ⟨rfl, rfl⟩)
    go_ret
    exact ⟨by simp, rfl⟩
  · show Calls Tryd.prog 45 #[.int .i64 c, .int .i64 1] w _
    go_enter Tryd.func45, Tryd.ntmps45
    go_wp2_with (go_at_call 52; refine (power1 _).mono ?_; rintro e w' ⟨rfl, rfl⟩)
    go_ret
    exact ⟨by simp, rfl⟩
  · show Calls Tryd.prog 45 #[.int .i64 c, .int .i64 2] w _
    go_enter Tryd.func45, Tryd.ntmps45
    go_wp2_with (go_at_call 52; refine (power2 _).mono ?_; rintro e w' ⟨rfl, rfl⟩)
    go_ret
    exact ⟨by simp, rfl⟩

/-- Where each tape goes in another order, and the column that is put so, tape by tape. -/
def invO (o : List Nat) : List Nat := (List.range o.length).map fun t => ((List.range o.length).find? fun j => o.getD j 0 == t).getD 0
def putTo (p : List Nat) (c : Nat) : Nat → Nat
  | 0 => 0
  | t + 1 => putTo p c t + c / 3 ^ t % 3 * 3 ^ (p.getD t 0)
def putFine2 : Bool := (List.range 4).all fun k => k == 0 || (orders k).all fun o => (List.range (wide k)).all fun c => putTo (invO o) c k == putN o c
theorem putFine2_true : putFine2 = true := by decide +kernel
theorem putTo_eq {k c : Nat} {o : List Nat} (h1 : 1 ≤ k) (h3 : k ≤ 3) (ho : o ∈ orders k) (hc : c < wide k) : putTo (invO o) c k = putN o c := by
  have h := putFine2_true
  unfold putFine2 at h
  have hk := List.all_eq_true.1 h k (List.mem_range.2 (by omega))
  rw [Bool.or_eq_true] at hk
  rcases hk with hk | hk
  · simp at hk; omega
  exact eq_of_beq (List.all_eq_true.1 (List.all_eq_true.1 hk o ho) c (List.mem_range.2 hc))
theorem invO_lt {k : Nat} {o : List Nat} (h1 : 1 ≤ k) (h3 : k ≤ 3) (ho : o ∈ orders k) : (invO o).length = k ∧ ∀ t, (invO o).getD t 0 ≤ 2 := by
  have : k = 1 ∨ k = 2 ∨ k = 3 := by omega
  have hb : ∀ l : List Nat, l ∈ [[0], [0, 1], [1, 0], [0, 1, 2], [0, 2, 1], [1, 0, 2], [1, 2, 0], [2, 0, 1], [2, 1, 0]] → ∀ t, l.getD t 0 ≤ 2 := fun l hl t => by
    simp at hl
    rcases hl with rfl | rfl | rfl | rfl | rfl | rfl | rfl | rfl | rfl
    all_goals (rcases t with _ | _ | _ | t <;> simp)
  rcases this with rfl | rfl | rfl
  all_goals simp [orders] at ho
  · subst ho; exact ⟨rfl, hb _ (by decide)⟩
  · rcases ho with rfl | rfl <;> exact ⟨rfl, hb _ (by decide)⟩
  · rcases ho with rfl | rfl | rfl | rfl | rfl | rfl <;> exact ⟨rfl, hb _ (by decide)⟩
theorem putTo_bound (p : List Nat) (c t : Nat) (hp : ∀ j, p.getD j 0 ≤ 2) : putTo p c t ≤ t * 18 := by
  induction t with
  | zero => exact Nat.le_refl _
  | succ t ih =>
    unfold putTo
    have h1 : c / 3 ^ t % 3 ≤ 2 := by omega
    have h2 : 3 ^ (p.getD t 0) ≤ 9 := by
      have : p.getD t 0 = 0 ∨ p.getD t 0 = 1 ∨ p.getD t 0 = 2 := by have := hp t; omega
      rcases this with h | h | h <;> rw [h] <;> decide
    have h3 := Nat.mul_le_mul h1 h2
    omega

end Go.Proofs.YtcpcbmappcndcaaDoor.PutS
