
/- What the program's function that makes an automaton by a rule hands back.
   Conditions: stated at each theorem. -/
import Derived.Test.YtpdplfgljjkjbaaSpecRight
import Derived.Test.YtpdplfgljjkjbaaLetter
namespace Go.Proofs.Ytpdplfgljjkjbaa.Automaton
set_option linter.unusedVariables false
set_option linter.unusedSimpArgs false
open Go.RowKit Mem Copy Rel Valid Heap Columns Numbers Bld TidyMath TidyRight SpecRight

/-- The struct in block ob is put together, the accepting states being another's list. -/
structure Aut (w : World) (B ob : Nat) (k : Int) (va vn : Value) (ints items : List (Value × List Value)) : Prop where
  own : Own w B 2 (ints ++ items)
  nxt : Lst w B 49 vn (items.map Prod.fst)
  at_ : w.heap[ob]? = some (.cells #[.int .i64 k, .int .i64 0, va, vn] 27 (0, 0))
  obB : B ≤ ob
section
variable {w w' : World} {B ob : Nat} {k : Int} {va vn : Value} {ints items : List (Value × List Value)}
theorem Aut.lt (h : Aut w B ob k va vn ints items) : ob < w.heap.size := lt_of_block h.at_
theorem Aut.below (h : Aut w B ob k va vn ints items) (hb : Below w.heap.size w w') : Aut w' B ob k va vn ints items :=
  ⟨h.own.below hb, h.nxt.below hb, by rw [hb.block ob h.lt]; exact h.at_, h.obB⟩
theorem Aut.addInt (h : Aut w B ob k va vn ints items) (hb : Below w.heap.size w w') {v : Value} {xs : List Value} (hl : Lst w' B 2 v xs) (hn : ∀ k, v.ownBlock = some k → w.heap.size ≤ k) : Aut w' B ob k va vn ((v, xs) :: ints) items :=
  ⟨h.own.addNew hb hl hn, h.nxt.below hb, by rw [hb.block ob h.lt]; exact h.at_, h.obB⟩
theorem Aut.setInt (l1 l2 : List (Value × List Value)) {g n cap : Nat} {xs : List Value} (h : Aut w B ob k va vn (l1 ++ (.slice (some ⟨g, 0, none⟩) n cap, xs) :: l2) items) {i : Nat} (hi : i < xs.length) (u : Value) :
    Aut (w.setCell ⟨g, i, none⟩ u) B ob k va vn (l1 ++ (.slice (some ⟨g, 0, none⟩) n cap, xs.set i u) :: l2) items := by
  have ho : Own w B 2 (l1 ++ (.slice (some ⟨g, 0, none⟩) n cap, xs) :: (l2 ++ items)) := by have := h.own; rw [List.append_assoc] at this; exact this
  have hv := Own.get l1 (l2 ++ items) ho
  refine ⟨?_, h.nxt.setOther (hv.apart h.nxt (by decide) g rfl) u, ?_, h.obB⟩
  · rw [List.append_assoc]; exact Own.set l1 (l2 ++ items) ho hi u
  · rw [Below.heap_setCell _ _ _ _ (fun e => block_apart hv h.at_ (by decide) (by show some g = some ob; rw [e]))]; exact h.at_
theorem Aut.obNext {vn' v : Value} (h : Aut w B ob k va vn ints items) (hp : Pushed w w' B 49 vn vn' (items.map Prod.fst) v) : w'.heap[ob]? = some (.cells #[.int .i64 k, .int .i64 0, va, vn] 27 (0, 0)) := by
  rw [hp.grow.block ob h.lt fun e => block_apart h.nxt h.at_ (by decide) e.symm]; exact h.at_
theorem Aut.pushNext (l1 l2 : List (Value × List Value)) {vn' v : Value} {xs : List Value} (h : Aut w B ob k va vn (l1 ++ (v, xs) :: l2) items) (hp : Pushed w w' B 49 vn vn' (items.map Prod.fst) v) :
    Aut (w'.setCell ⟨ob, 3, none⟩ vn') B ob k va vn' (l1 ++ l2) (items ++ [(v, xs)]) := by
  have hob := h.obNext hp
  have ho : Own w' B 2 (l1 ++ (v, xs) :: l2 ++ items) := h.own.grown hp.grow fun k hk p hm => h.nxt.apart (h.own.lst p hm) (by decide) k hk
  refine ⟨Own.perm (ho.setOther (a := ⟨ob, 3, none⟩) hob (by decide) _) ?_, ?_, cells_set hob 3 vn', h.obB⟩
  · have h1 : (l1 ++ (v, xs) :: l2 ++ items).Perm ((v, xs) :: (l1 ++ l2 ++ items)) := by
      rw [List.append_assoc, List.append_assoc]
      exact List.perm_middle
    have h2 : ((v, xs) :: (l1 ++ l2 ++ items)).Perm (l1 ++ l2 ++ (items ++ [(v, xs)])) := by
      rw [← List.append_assoc]
      exact (List.perm_append_singleton _ _).symm
    exact h1.trans h2
  · rw [List.map_append]
    exact hp.lst.setOther (block_apart hp.lst hob (by decide)) _
/-- The rows that are put together, as they read. -/
theorem Aut.rows (h : Aut w B ob k va vn [] items) {nx : List (List Int)} (hn : items.map Prod.snd = nx.map fun r => r.map (Value.int .i64)) : Built w B (.slice none 0 0) vn [] nx :=
  ⟨Lst.nil _ _ _, items, by have := h.own; rwa [List.nil_append] at this, h.nxt, hn⟩
theorem built_rows {w : World} {B : Nat} {vn : Value} {nx : List (List Int)} (hb : Built w B (.slice none 0 0) vn [] nx) (C : Nat) (hC : w.heap.size ≤ C) : IntRows w C vn nx := by
  obtain ⟨va', vn', e, -, hr⟩ := hb.reads C hC 0 0
  simp at e
  obtain ⟨-, rfl⟩ := e
  exact hr
theorem built_with {w : World} {B : Nat} {va vn : Value} {acc : List Bool} {nx : List (List Int)} (hb : Built w B (.slice none 0 0) vn [] nx) (ha : Lst w B 4 va (acc.map Value.bool)) : Built w B va vn acc nx := ⟨ha, hb.rows⟩
/-- A list that is written out. -/
theorem Lst.lit (w : World) (B : Nat) (t : TypeId) (c : Array Value) (hB : B ≤ w.heap.size) (hc : c.size ≤ 1000) :
    Lst (w.alloc (.cells c t)) B t (.slice (some ⟨w.heap.size, 0, none⟩) c.size c.size) c.toList :=
  ⟨by simp, .inr ⟨w.heap.size, c.size, c, by simp, hB, heap_alloc_new w _, by simp, by unfold maxLen; omega, by simp, by rw [Array.length_toList, Nat.mul_one]; exact List.take_of_length_le (by simp)⟩⟩
end

/-- The rows of an automaton of n states that is told by a rule. -/
def autN (k n : Nat) (nx : Nat → Nat → Int) : List (List Int) := (List.range n).map fun s => (List.range (wide k)).map (nx s)

set_option maxRecDepth 100000 in
set_option maxHeartbeats 8000000 in
theorem automaton (k : Nat) (h1 : 1 ≤ k) (h3 : k ≤ 3) (va : Value) (acc : List Bool) (w : World) (B : Nat) (hacc : Bools w B va acc) (hB : B ≤ w.heap.size) (hn : acc.length ≤ 100000) (fid : FuncId) (hcf : ∀ (args : Array Value) (W : World), (callFunc fid args).run Try.prog W = .ok (.enter fid args) W) (caps : Array Value) (nx : Nat → Nat → Int)
    (hC : ∀ W, Below w.heap.size w W → ∀ s c : Nat, s < acc.length → c < wide k → Calls Try.prog fid (#[.int .i64 s, lettersV k c] ++ caps) W fun e w' => e = .returned (.int .i64 (nx s c)) ∧ Below W.heap.size W w') :
    Calls Try.prog 50 #[.int .i64 k, va, .func (.func fid) #[] caps] w fun e w' => ∃ vn, e = .returned (.agg #[.int .i64 k, .int .i64 0, va, vn]) ∧ Built w' w.heap.size (.slice none 0 0) vn [] (autN k acc.length nx) ∧ Below w.heap.size w w' := by
  have hcnt := countAny (k : Int) (by omega) (by omega)
  have hwk : widthOf (k : Int) = ((wide k : Nat) : Int) := by
    have : k = 1 ∨ k = 2 ∨ k = 3 := by omega
    rcases this with rfl | rfl | rfl <;> rfl
  rw [hwk] at hcnt
  have hw26 : wide k ≤ 26 := by have := wide_cases h1 h3; omega
  have HL := Lib.hid (fun (c : Nat) (hc : c < 26) W => lettersAny k h1 h3 (c : Int) (by omega) (by omega) W)
  have HAU := Lib.hid (show ∀ n, n = acc.length → autN k n nx = (List.range n).map fun s => (List.range (wide k)).map (nx s) from fun n _ => rfl)
  obtain ⟨m, hm⟩ : ∃ m, m = wide k := ⟨_, rfl⟩
  rw [← hm] at hcnt hw26 hC HAU
  obtain ⟨aa, ba, oa, ca, rfl, hma, -, -⟩ := hacc
  obtain ⟨n, hnn⟩ : ∃ n, n = acc.length := ⟨_, rfl⟩
  rw [← hnn] at hma hn hC HAU
  rw [← hnn]
  have HC := Lib.hid hcnt
  have HCC := Lib.hid hC
  have hmk := run_make_row' (P := Try.prog) 49 2 (.int .i64 0) 8 Try.underlying49 info2 rfl .i64 .i64 m (by omega) (by omega)
  have HAE := Lib.hid (HAU.out n rfl)
  clear hcnt hwk hm hC hnn HAU
  have HA0 := Lib.hid (show Aut ((w.alloc (.cells #[Value.int .i64 0, .int .i64 0, .slice none 0 0, .slice none 0 0] 27)).alloc (.cells #[Value.int .i64 k, .int .i64 0, .slice aa n ca, .slice none 0 0] 27)) (w.heap.size + 1) (w.heap.size + 1) k (.slice aa n ca) (.slice none 0 0) [] [] from
    ⟨Own.nil _ _ _, Lst.nil _ _ _, by have := heap_alloc_new (w.alloc (.cells #[Value.int .i64 0, .int .i64 0, .slice none 0 0, .slice none 0 0] 27)) (.cells #[Value.int .i64 k, .int .i64 0, .slice aa n ca, .slice none 0 0] 27); rwa [size_alloc'] at this, Nat.le_refl _⟩)
  have HB0 := Lib.hid (show Kp w ((w.alloc (.cells #[Value.int .i64 0, .int .i64 0, .slice none 0 0, .slice none 0 0] 27)).alloc (.cells #[Value.int .i64 k, .int .i64 0, .slice aa n ca, .slice none 0 0] 27)) from (Below.refl _ _).alloc (by simp) _)
  go_enter Try.func50, Try.ntmps50
  go_wp2_with fail
  go_loopw [8, 9, 10, 16, 24] (fun _ _ _ s16 _ wr => ∃ (i : Nat) (vn : Value) (items : List (Value × List Value)), i ≤ n ∧ s16 = .int .i64 i ∧ Aut wr (w.heap.size + 1) (w.heap.size + 1) k (.slice aa n ca) vn [] items ∧
    items.map Prod.snd = (List.range i).map (fun s => tv m (nx s)) ∧ Kp w wr) (fun _ _ _ s16 _ _ => n - (intOf s16).toNat)
  case atStart => exact ⟨0, _, [], Nat.zero_le _, rfl, HA0.out, rfl, HB0.out⟩
  case round =>
    obtain ⟨i, vn, items, hi, rfl, haut, hit, hbel⟩ := hrel
    have HD := Lib.hid haut
    have HI := Lib.hid hit
    have HB := Lib.hid hbel
    clear haut hit hbel HA0 HB0
    by_cases hlt : i < n
    · obtain ⟨g, hg⟩ : ∃ g, g = wr.heap.size := ⟨_, rfl⟩
      have HA1 := Lib.hid (show Aut (wr.alloc (.cells (madeCells #[Value.int .i64 0] m) 2)) (w.heap.size + 1) (w.heap.size + 1) k (.slice aa n ca) vn [(.slice (some ⟨g, 0, none⟩) m m, tv m fun c => if c < 0 then nx i c else 0)] items from by
        have h1 := Lst.made wr (w.heap.size + 1) 2 (.int .i64 0) m (Kp.size HB.out) (by unfold maxLen; omega)
        rw [tv_rep] at h1
        rw [hg]
        exact HD.out.addInt ((Below.refl _ _).alloc (Nat.le_refl _) _) h1 (fun q hq => by cases hq; exact Nat.le_refl _))
      have HB1 := Lib.hid (show Kp w (wr.alloc (.cells (madeCells #[Value.int .i64 0] m) 2)) from Below.alloc HB.out (Kp.size HB.out) _)
      have HCI := Lib.hid (fun W (hb : Kp w W) (c : Nat) (hc : c < m) => HCC.out W (Kp.base hb) i c hlt hc)
      go_wp2_with (go_at_call 66; refine (HC.out _).mono ?_; rintro e w' ⟨rfl, rfl⟩)
      rw [← hg]
      clear hg
      go_loopw [10, 24] (fun _ s24 wr' => ∃ c : Nat, c ≤ m ∧ s24 = .int .i64 c ∧ Aut wr' (w.heap.size + 1) (w.heap.size + 1) k (.slice aa n ca) vn [(.slice (some ⟨g, 0, none⟩) m m, tv m fun q => if q < c then nx i q else 0)] items ∧ Kp w wr') (fun _ s24 _ => m - (intOf s24).toNat)
      case atStart => exact ⟨0, Nat.zero_le _, rfl, HA1.out, HB1.out⟩
      case round =>
        obtain ⟨c, hc, rfl, haut, hbel⟩ := hrel
        have HD2 := Lib.hid haut
        have HB2 := Lib.hid hbel
        clear haut hbel HA1 HB1 hmk
        by_cases hlc : c < m
        · have HLJ := Lib.hid (HL.out c (by omega))
          go_wp2_with fail
          refine (HLJ.out _).mono ?_
          rintro e w1 ⟨rfl, hb⟩
          have HD3 := Lib.hid (HD2.out.below hb)
          have HB3 := Lib.hid (show Kp w w1 from Below.trans HB2.out (hb.mono (Kp.size HB2.out)))
          clear hb
          go_wp2_with fail
          refine (HCI.out _ HB3.out c hlc).mono ?_
          rintro e w2 ⟨rfl, hb⟩
          have HD4 := Lib.hid (HD3.out.below hb)
          have HB4 := Lib.hid (show Kp w w2 from Below.trans HB3.out (hb.mono (Kp.size HB3.out)))
          have c9 := (Own.get [] _ HD4.out.own).cellOf (i := c) (by rw [tv_length]; exact hlc)
          have f9 := (Own.get [] _ HD4.out.own).free c
          rw [tv_get] at c9
          have hgl := (Own.get [] _ HD4.out.own).lt (k := g) rfl
          clear hb HD3 HB3
          go_wp2_with fail
          go_roundw
          case rel =>
            have h1 := Aut.setInt [] [] (i := c) HD4.out (by rw [tv_length]; exact hlc) (.int .i64 (nx i c))
            rw [tv_set] at h1
            refine ⟨c + 1, hlc, by go_num, ?_, HB4.out.setCell ((Own.get [] _ HD4.out.own).ge (k := g) rfl) _⟩
            rw [show (fun q => if q < c + 1 then nx i q else 0) = (fun q => if q = c then nx i c else if q < c then nx i q else 0) from funext fun q => by
              by_cases e : q = c
              · subst e; simp
              · have : (q < c + 1) = (q < c) := by apply propext; constructor <;> intro h <;> omega
                simp only [if_neg e, this]]
            exact h1
          case measure => simp [intOf]; omega
        · obtain rfl : c = m := by omega
          have HE4 := Lib.hid (show Aut wr (w.heap.size + 1) (w.heap.size + 1) k (.slice aa n ca) vn [(.slice (some ⟨g, 0, none⟩) c c, tv c (nx i))] items from by
            have h1 := HD2.out
            rw [tv_congr (S := nx i) (fun q hq => by rw [if_pos hq])] at h1
            exact h1)
          have HIL := Lib.hid (show (items.map Prod.fst).length ≤ 100000000 from by
            have := congrArg List.length HI.out
            rw [List.length_map, List.length_map, List.length_range] at this
            rw [List.length_map]; omega)
          have HS4 := Lib.hid (Kp.size HB2.out)
          have q3 := cells_get HE4.out.at_ 3
          have z3 := cells_free HE4.out.at_ 3
          have hl4 := HE4.out.lt
          simp at q3
          obtain ⟨a0, n0, c0, rfl, -⟩ := HE4.out.nxt.shape'
          go_wp2_with (at_builtin; refine wpList_push rfl _ _ 23 rfl 49 (.slice none 0 0) 24 Try.underlying23 info54 (by decide) (by decide) (w.heap.size + 1) (.slice a0 n0 c0) _ (.slice (some ⟨g, 0, none⟩) c c) HE4.out.nxt HS4.out rfl HIL.out rfl _ rfl rfl ?_; intro v5 w5 hp5; obtain ⟨a5, n5, cp5, rfl, HN5⟩ := hp5.lst.shape'; have o5 := HE4.out.obNext hp5; have q5 := (cells_get o5 3); have z5 := cells_free o5 3; have hl5 := (lt_of_block o5); have HE5 := Lib.hid (HE4.out.pushNext [] [] hp5); have HB5 := Lib.hid ((Below.grown HB2.out hp5.grow HS4.out (fun q hq => HE4.out.nxt.ge hq)).setCell (p := ⟨w.heap.size + 1, 3, none⟩) HE4.out.obB (.slice a5 n5 cp5)); simp at q5; clear hp5 o5)
          go_roundw
          case rel =>
            have h1 := HE5.out
            rw [List.nil_append] at h1
            refine ⟨i + 1, _, _, hlt, by go_num, h1, ?_, HB5.out⟩
            rw [List.map_append, HI.out, List.range_succ, List.map_append]; rfl
          case measure => simp [intOf]; omega
    · obtain rfl : i = n := by omega
      have hres := Kp.res HB.out
      obtain ⟨a5, n5, cp6, rfl, -⟩ := HD.out.nxt.shape'
      have y0 := cells_get HD.out.at_ 0
      have y1 := cells_get HD.out.at_ 1
      have y2 := cells_get HD.out.at_ 2
      have y3 := cells_get HD.out.at_ 3
      have hly := HD.out.lt
      have r0 := cells_get hres 0
      have r1 := cells_get hres 1
      have r2 := cells_get hres 2
      have r3 := cells_get hres 3
      have f0 := cells_free hres 0
      have f1 := cells_free hres 1
      have f2 := cells_free hres 2
      have f3 := cells_free hres 3
      have hlS := lt_of_block hres
      have p0 := cells_set hres 0 (.int .i64 k)
      have p1 := cells_set p0 1 (.int .i64 0)
      have p2 := cells_set p1 2 (.slice aa i ca)
      have p3 := cells_set p2 3 (.slice a5 n5 cp6)
      simp at y0 y1 y2 y3 r0 r1 r2 r3 p3
      have g0 := cells_get p3 0
      have g1 := cells_get p3 1
      have g2 := cells_get p3 2
      have g3 := cells_get p3 3
      simp at g0 g1 g2 g3
      have HG := Lib.hid (And.intro g0 (And.intro g1 (And.intro g2 g3)))
      have HRW := Lib.hid (show items.map Prod.snd = (autN k i nx).map fun r => r.map (Value.int .i64) from by
        rw [HI.out, HAE.out, List.map_map]
        refine List.map_congr_left fun q _ => ?_
        show tv m (nx q) = ((List.range m).map (nx q)).map (Value.int .i64)
        unfold tv; rw [List.map_map]; rfl)
      clear p0 p1 p2 p3 g0 g1 g2 g3 hres hmk
      go_wp2_with fail
      obtain ⟨g0, g1, g2, g3⟩ := HG.out
      refine bodyPost_ret (v := .agg #[.int .i64 k, .int .i64 0, .slice aa i ca, .slice a5 n5 cp6]) (by simp [results, Try.results50, go_sem, g0, g1, g2, g3]) rfl ⟨.slice a5 n5 cp6, rfl, ?_, ?_⟩
      · have hset : ∀ (W : World) (j : Nat) (u : Value), Aut W (w.heap.size + 1) (w.heap.size + 1) k (.slice aa i ca) (.slice a5 n5 cp6) [] items → Aut (W.setCell ⟨w.heap.size, j, none⟩ u) (w.heap.size + 1) (w.heap.size + 1) k (.slice aa i ca) (.slice a5 n5 cp6) [] items := fun W j u h => by
          have hne : ∀ (v : Value) (xs : List Value) (t : TypeId), Lst W (w.heap.size + 1) t v xs → v.ownBlock ≠ some w.heap.size := fun v xs t hl e => by have := hl.ge e; omega
          refine ⟨⟨fun p hp => (h.own.lst p hp).setOther (hne _ _ _ (h.own.lst p hp)) u, h.own.apart⟩, h.nxt.setOther (hne _ _ _ h.nxt) u, ?_, h.obB⟩
          rw [Below.heap_setCell _ _ _ _ (fun e => by have e : w.heap.size + 1 = w.heap.size := e; omega)]
          exact h.at_
        exact ((hset _ 3 _ (hset _ 2 _ (hset _ 1 _ (hset _ 0 _ HD.out)))).rows HRW.out).mono (Nat.le_succ _)
      · have HBW := Kp.base HB.out
        exact (((HBW.setCell (p := ⟨w.heap.size, 0, none⟩) (Nat.le_refl _) _).setCell (p := ⟨w.heap.size, 1, none⟩) (Nat.le_refl _) _).setCell (p := ⟨w.heap.size, 2, none⟩) (Nat.le_refl _) _).setCell (p := ⟨w.heap.size, 3, none⟩) (Nat.le_refl _) _
end Go.Proofs.Ytpdplfgljjkjbaa.Automaton
