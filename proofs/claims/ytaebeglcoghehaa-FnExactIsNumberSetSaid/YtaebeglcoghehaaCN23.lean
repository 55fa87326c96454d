
/- What the program's function for a small automaton hands back.
   Conditions: stated at each theorem. -/
import Derived.Test.YtaebeglcoghehaaCN21
import Derived.Test.YtaebeglcoghehaaCN22
import Derived.Test.YtaebeglcoghehaaCN8
import Derived.Test.YtaebeglcoghehaaCN10
import Derived.Test.YtaebeglcoghehaaCN20
import Derived.Test.YtaebeglcoghehaaCN15
import Derived.Deep.RegionWith
namespace Go.Proofs.Ytaebeglcoghehaa.ClosedImpl
set_option linter.unusedVariables false
set_option linter.unusedSimpArgs false
set_option maxRecDepth 100000
open Go.RowKit Mem Copy Rel Valid Heap Bld ColMath Columns ToL TidyAuto TidyRight SpecRight SpecTidyRel ImplRight Sim ResKit

set_option maxHeartbeats 8000000 in
theorem knownI (v : Value) (r : R) (hok : okB r = true) (w : World) (B : Nat) (h : RelAt w B v r) (hB : B ≤ w.heap.size) :
    Calls Try.prog 86 #[v] w fun e w' => ∃ va vn, e = .returned (.agg #[.int .i64 (tidyK r), .int .i64 0, va, vn]) ∧ Built w' w.heap.size va vn (tidyA r) (tidyN r) ∧ Below w.heap.size w w' := by
  obtain ⟨K, hK⟩ : ∃ K, K = tidyK r := ⟨_, rfl⟩
  obtain ⟨C, hC⟩ : ∃ C, C = tidyC r := ⟨_, rfl⟩
  have HTT := Lib.hid (fun W (hb : Below w.heap.size w W) => ImplTidyRel.tidied v r hok W W.heap.size ((h.below hb hB).mono (Nat.le_trans hB hb.size)) (Nat.le_refl _))
  rw [← hK, ← hC] at HTT
  rw [← hK]
  clear hK hC
  obtain ⟨va, vn, rfl, ha, hn⟩ := h
  obtain ⟨aa, ba, oa, ca, rfl, -, -, -⟩ := ha
  obtain ⟨-, ⟨ab, bb, ob, cb, rfl, -, -, -⟩, -⟩ := hn
  obtain ⟨k, hk⟩ : ∃ k, k = r.tapes := ⟨_, rfl⟩
  obtain ⟨st, hs⟩ : ∃ st, st = r.start := ⟨_, rfl⟩
  obtain ⟨na, hna⟩ : ∃ na, na = r.accept.length := ⟨_, rfl⟩
  obtain ⟨nb, hnb⟩ : ∃ nb, nb = r.next.length := ⟨_, rfl⟩
  rw [← hk, ← hs, ← hna, ← hnb] at HTT
  rw [← hk, ← hs, ← hna, ← hnb]
  have HT := Lib.hid (HTT.out ((w.alloc (.cells #[.int .i64 k, .int .i64 st, .slice aa na ca, .slice ab nb cb] 29)).alloc (.cells #[Value.int .i64 0, .int .i64 0, .slice none 0 0, .slice none 0 0] 29)) (((Below.refl _ _).alloc (Nat.le_refl _) _).alloc (by rw [size_alloc']; omega) _))
  clear hk hs hna hnb HTT hok hB
  go_enter Try.func86, Try.ntmps86
  go_wp2_with fail
  refine HT.out.mono ?_
  rintro e w3 ⟨va, vn, rfl, hbu, hb3⟩
  have hk3 : K0 w #[.int .i64 k, .int .i64 st, .slice aa na ca, .slice ab nb cb] w3 := by
    have h1 := hb3
    rw [size_alloc', size_alloc'] at h1
    exact h1
  have HK3 := Lib.hid hk3
  obtain ⟨a4, n4, c4, rfl, -⟩ := hbu.acc.shape'
  obtain ⟨items0, -, hnx0, -⟩ := hbu.rows
  obtain ⟨b4, m4, d4, rfl, -⟩ := hnx0.shape'
  have HBU := Lib.hid hbu
  have hr1 := K0.res hk3
  have hlt1 := lt_of_block hr1
  have HW3 := Lib.hid (K0.base hk3)
  have HBU := Lib.hid (show Built w3 (w.heap.size + 2) (.slice a4 n4 c4) (.slice b4 m4 d4) (tidyA r) (tidyN r) from by
    have h1 := hbu
    rw [size_alloc', size_alloc'] at h1
    exact h1)
  have r0 := cells_get hr1 0
  have r1 := cells_get hr1 1
  have r2 := cells_get hr1 2
  have r3 := cells_get hr1 3
  have f0 := cells_free hr1 0
  have f1 := cells_free hr1 1
  have f2 := cells_free hr1 2
  have f3 := cells_free hr1 3
  have p0 := cells_set hr1 0 (.int .i64 K)
  have p1 := cells_set p0 1 (.int .i64 0)
  have p2 := cells_set p1 2 (Value.slice a4 n4 c4)
  have p3 := cells_set p2 3 (Value.slice b4 m4 d4)
  simp at r0 r1 r2 r3 p3
  have p4 : (((((w3.setCell ⟨w.heap.size + 1, 0, none⟩ (.int .i64 K)).setCell ⟨w.heap.size + 1, 1, none⟩ (.int .i64 0)).setCell ⟨w.heap.size + 1, 2, none⟩ (.slice a4 n4 c4)).setCell ⟨w.heap.size + 1, 3, none⟩ (.slice b4 m4 d4)).alloc (.cells #[.int .i64 K, .int .i64 0, .slice a4 n4 c4, .slice b4 m4 d4] 29)).heap[w.heap.size + 1]? = some (.cells #[.int .i64 K, .int .i64 0, .slice a4 n4 c4, .slice b4 m4 d4] 29 (0, 0)) := by
    rw [Below.heap_alloc _ _ _ (lt_of_block p3)]; exact p3
  have g0 := cells_get p4 0
  have g1 := cells_get p4 1
  have g2 := cells_get p4 2
  have g3 := cells_get p4 3
  simp at g0 g1 g2 g3
  have HG := Lib.hid (And.intro g0 (And.intro g1 (And.intro g2 g3)))
  clear p0 p1 p2 p3 p4 g0 g1 g2 g3 hr1 hbu hb3 hk3 hnx0 HK3
  go_wp2_with fail
  obtain ⟨g0, g1, g2, g3⟩ := HG.out
  refine bodyPost_ret (v := .agg #[.int .i64 K, .int .i64 0, .slice a4 n4 c4, .slice b4 m4 d4]) (by simp [results, Try.results86, go_sem, g0, g1, g2, g3]) rfl ⟨.slice a4 n4 c4, .slice b4 m4 d4, rfl, ?_, ?_⟩
  · exact (((((HBU.out.setLow (a := ⟨w.heap.size + 1, 0, none⟩) (Nat.lt_succ_self _) _).setLow (a := ⟨w.heap.size + 1, 1, none⟩) (Nat.lt_succ_self _) _).setLow (a := ⟨w.heap.size + 1, 2, none⟩) (Nat.lt_succ_self _) _).setLow (a := ⟨w.heap.size + 1, 3, none⟩) (Nat.lt_succ_self _) _).below ((Below.refl _ _).alloc (Nat.le_refl _) _)).mono (by omega)
  · have HBW := HW3.out
    exact base_box ((((HBW.setCell (p := ⟨w.heap.size + 1, 0, none⟩) (Nat.le_succ _) _).setCell (p := ⟨w.heap.size + 1, 1, none⟩) (Nat.le_succ _) _).setCell (p := ⟨w.heap.size + 1, 2, none⟩) (Nat.le_succ _) _).setCell (p := ⟨w.heap.size + 1, 3, none⟩) (Nat.le_succ _) _) _

end Go.Proofs.Ytaebeglcoghehaa.ClosedImpl
/- What the program's function that makes an automaton by a rule hands back.
   Conditions: stated at each theorem. -/
namespace Go.Proofs.Ytaebeglcoghehaa.Automaton
set_option linter.unusedVariables false
set_option linter.unusedSimpArgs false
open Go.RowKit Mem Copy Rel Valid Heap Columns Numbers Bld TidyMath TidyRight SpecRight

/-- The struct in block ob is put together, the accepting states being another's list. -/
structure Aut (w : World) (B ob : Nat) (k : Int) (va vn : Value) (ints items : List (Value × List Value)) : Prop where
  own : Own w B 2 (ints ++ items)
  nxt : Lst w B 44 vn (items.map Prod.fst)
  at_ : w.heap[ob]? = some (.cells #[.int .i64 k, .int .i64 0, va, vn] 29 (0, 0))
  obB : B ≤ ob
section
variable {w w' : World} {B ob : Nat} {k : Int} {va vn : Value} {ints items : List (Value × List Value)}
theorem Aut.lt (h : Aut w B ob k va vn ints items) : ob < w.heap.size := lt_of_block h.at_
theorem Aut.below (h : Aut w B ob k va vn ints items) (hb : Below w.heap.size w w') : Aut w' B ob k va vn ints items :=
  ⟨h.own.below hb, h.nxt.below hb, by rw [hb.block ob h.lt]; exact h.at_, h.obB⟩
theorem Aut.addInt (h : Aut w B ob k va vn ints items) (hb : Below w.heap.size w w') {v : Value} {xs : List Value} (hl : Lst w' B 2 v xs) (hn : ∀ k, v.ownBlock = some k → w.heap.size ≤ k) : Aut w' B ob k va vn ((v, xs) :: ints) items :=
  ⟨h.own.addNew hb hl hn, h.nxt.below hb, by rw [hb.block ob h.lt]; exact h.at_, h.obB⟩
theorem Aut.setInt (l1 l2 : List (Value × List Value)) {g n cap : Nat} {xs : List Value} (h : Aut w B ob k va vn (l1 ++ (.slice (some ⟨g, 0, none⟩) n cap, xs) :: l2) items) {i : Nat} (hi : i < xs.length) (u : Value) :
    Aut (w.setCell ⟨g, i, none⟩ u) B ob k va vn (l1 ++ (.slice (some ⟨g, 0, none⟩) n cap, xs.set i u) :: l2) items := by
  have ho : Own w B 2 (l1 ++ (.slice (some ⟨g, 0, none⟩) n cap, xs) :: (l2 ++ items)) := by have := h.own; rw [List.append_assoc] at this; exact this
  have hv := Own.get l1 (l2 ++ items) ho
  refine ⟨?_, h.nxt.setOther (hv.apart h.nxt (by decide) g rfl) u, ?_, h.obB⟩
  · rw [List.append_assoc]; exact Own.set l1 (l2 ++ items) ho hi u
  · rw [Below.heap_setCell _ _ _ _ (fun e => block_apart hv h.at_ (by decide) (by show some g = some ob; rw [e]))]; exact h.at_
theorem Aut.obNext {vn' v : Value} (h : Aut w B ob k va vn ints items) (hp : Pushed w w' B 44 vn vn' (items.map Prod.fst) v) : w'.heap[ob]? = some (.cells #[.int .i64 k, .int .i64 0, va, vn] 29 (0, 0)) := by
  rw [hp.grow.block ob h.lt fun e => block_apart h.nxt h.at_ (by decide) e.symm]; exact h.at_
theorem Aut.pushNext (l1 l2 : List (Value × List Value)) {vn' v : Value} {xs : List Value} (h : Aut w B ob k va vn (l1 ++ (v, xs) :: l2) items) (hp : Pushed w w' B 44 vn vn' (items.map Prod.fst) v) :
    Aut (w'.setCell ⟨ob, 3, none⟩ vn') B ob k va vn' (l1 ++ l2) (items ++ [(v, xs)]) := by
  have hob := h.obNext hp
  have ho : Own w' B 2 (l1 ++ (v, xs) :: l2 ++ items) := h.own.grown hp.grow fun k hk p hm => h.nxt.apart (h.own.lst p hm) (by decide) k hk
  refine ⟨Own.perm (ho.setOther (a := ⟨ob, 3, none⟩) hob (by decide) _) ?_, ?_, cells_set hob 3 vn', h.obB⟩
  · have h1 : (l1 ++ (v, xs) :: l2 ++ items).Perm ((v, xs) :: (l1 ++ l2 ++ items)) := by
      rw [List.append_assoc, List.append_assoc]
      exact List.perm_middle
    have h2 : ((v, xs) :: (l1 ++ l2 ++ items)).Perm (l1 ++ l2 ++ (items ++ [(v, xs)])) := by
      rw [← List.append_assoc]
      exact (List.perm_append_singleton _ _).symm
    exact h1.trans h2
  · rw [List.map_append]
    exact hp.lst.setOther (block_apart hp.lst hob (by decide)) _
/-- The rows that are put together, as they read. -/
theorem Aut.rows (h : Aut w B ob k va vn [] items) {nx : List (List Int)} (hn : items.map Prod.snd = nx.map fun r => r.map (Value.int .i64)) : Built w B (.slice none 0 0) vn [] nx :=
  ⟨Lst.nil _ _ _, items, by have := h.own; rwa [List.nil_append] at this, h.nxt, hn⟩
theorem built_rows {w : World} {B : Nat} {vn : Value} {nx : List (List Int)} (hb : Built w B (.slice none 0 0) vn [] nx) (C : Nat) (hC : w.heap.size ≤ C) : IntRows w C vn nx := by
  obtain ⟨va', vn', e, -, hr⟩ := hb.reads C hC 0 0
  simp at e
  obtain ⟨-, rfl⟩ := e
  exact hr
theorem built_with {w : World} {B : Nat} {va vn : Value} {acc : List Bool} {nx : List (List Int)} (hb : Built w B (.slice none 0 0) vn [] nx) (ha : Lst w B 4 va (acc.map Value.bool)) : Built w B va vn acc nx := ⟨ha, hb.rows⟩
/-- A list that is written out. -/
theorem Lst.lit (w : World) (B : Nat) (t : TypeId) (c : Array Value) (hB : B ≤ w.heap.size) (hc : c.size ≤ 1000) :
    Lst (w.alloc (.cells c t)) B t (.slice (some ⟨w.heap.size, 0, none⟩) c.size c.size) c.toList :=
  ⟨by simp, .inr ⟨w.heap.size, c.size, c, by simp, hB, heap_alloc_new w _, by simp, by unfold maxLen; omega, by simp, by rw [Array.length_toList, Nat.mul_one]; exact List.take_of_length_le (by simp)⟩⟩
end

/-- The rows of an automaton of n states that is told by a rule. -/
def autN (k n : Nat) (nx : Nat → Nat → Int) : List (List Int) := (List.range n).map fun s => (List.range (wide k)).map (nx s)

set_option maxRecDepth 100000 in
set_option maxHeartbeats 8000000 in
theorem automaton (k : Nat) (h1 : 1 ≤ k) (h3 : k ≤ 3) (va : Value) (acc : List Bool) (w : World) (B : Nat) (hacc : Bools w B va acc) (hB : B ≤ w.heap.size) (hn : acc.length ≤ 100000) (fid : FuncId) (hcf : ∀ (args : Array Value) (W : World), (callFunc fid args).run Try.prog W = .ok (.enter fid args) W) (caps : Array Value) (nx : Nat → Nat → Int)
    (hC : ∀ W, Below w.heap.size w W → ∀ s c : Nat, s < acc.length → c < wide k → Calls Try.prog fid (#[.int .i64 s, lettersV k c] ++ caps) W fun e w' => e = .returned (.int .i64 (nx s c)) ∧ Below W.heap.size W w') :
    Calls Try.prog 87 #[.int .i64 k, va, .func (.func fid) #[] caps] w fun e w' => ∃ vn, e = .returned (.agg #[.int .i64 k, .int .i64 0, va, vn]) ∧ Built w' w.heap.size (.slice none 0 0) vn [] (autN k acc.length nx) ∧ Below w.heap.size w w' := by
  have hcnt := countAny (k : Int) (by omega) (by omega)
  have hwk : widthOf (k : Int) = ((wide k : Nat) : Int) := by
    have : k = 1 ∨ k = 2 ∨ k = 3 := by omega
    rcases this with rfl | rfl | rfl <;> rfl
  rw [hwk] at hcnt
  have hw26 : wide k ≤ 26 := by have := wide_cases h1 h3; omega
  have HL := Lib.hid (fun (c : Nat) (hc : c < 26) W => lettersAny k h1 h3 (c : Int) (by omega) (by omega) W)
  have HAU := Lib.hid (show ∀ n, n = acc.length → autN k n nx = (List.range n).map fun s => (List.range (wide k)).map (nx s) from fun n _ => rfl)
  obtain ⟨m, hm⟩ : ∃ m, m = wide k := ⟨_, rfl⟩
  rw [← hm] at hcnt hw26 hC HAU
  obtain ⟨aa, ba, oa, ca, rfl, hma, -, -⟩ := hacc
  obtain ⟨n, hnn⟩ : ∃ n, n = acc.length := ⟨_, rfl⟩
  rw [← hnn] at hma hn hC HAU
  rw [← hnn]
  have HC := Lib.hid hcnt
  have HCC := Lib.hid hC
  have hmk := run_make_row' (P := Try.prog) 44 2 (.int .i64 0) 8 Try.underlying44 info2 rfl .i64 .i64 m (by omega) (by omega)
  have HAE := Lib.hid (HAU.out n rfl)
  clear hcnt hwk hm hC hnn HAU
  have HA0 := Lib.hid (show Aut ((w.alloc (.cells #[Value.int .i64 0, .int .i64 0, .slice none 0 0, .slice none 0 0] 29)).alloc (.cells #[Value.int .i64 k, .int .i64 0, .slice aa n ca, .slice none 0 0] 29)) (w.heap.size + 1) (w.heap.size + 1) k (.slice aa n ca) (.slice none 0 0) [] [] from
    ⟨Own.nil _ _ _, Lst.nil _ _ _, by have := heap_alloc_new (w.alloc (.cells #[Value.int .i64 0, .int .i64 0, .slice none 0 0, .slice none 0 0] 29)) (.cells #[Value.int .i64 k, .int .i64 0, .slice aa n ca, .slice none 0 0] 29); rwa [size_alloc'] at this, Nat.le_refl _⟩)
  have HB0 := Lib.hid (show Kp w ((w.alloc (.cells #[Value.int .i64 0, .int .i64 0, .slice none 0 0, .slice none 0 0] 29)).alloc (.cells #[Value.int .i64 k, .int .i64 0, .slice aa n ca, .slice none 0 0] 29)) from (Below.refl _ _).alloc (by simp) _)
  go_enter Try.func87, Try.ntmps87
  go_wp2_with fail
  go_loopw [8, 9, 10, 16, 24] (fun _ _ _ s16 _ wr => ∃ (i : Nat) (vn : Value) (items : List (Value × List Value)), i ≤ n ∧ s16 = .int .i64 i ∧ Aut wr (w.heap.size + 1) (w.heap.size + 1) k (.slice aa n ca) vn [] items ∧
    items.map Prod.snd = (List.range i).map (fun s => tv m (nx s)) ∧ Kp w wr) (fun _ _ _ s16 _ _ => n - (intOf s16).toNat)
  case atStart => exact ⟨0, _, [], Nat.zero_le _, rfl, HA0.out, rfl, HB0.out⟩
  case round =>
    obtain ⟨i, vn, items, hi, rfl, haut, hit, hbel⟩ := hrel
    have HD := Lib.hid haut
    have HI := Lib.hid hit
    have HB := Lib.hid hbel
    clear haut hit hbel HA0 HB0
    by_cases hlt : i < n
    · obtain ⟨g, hg⟩ : ∃ g, g = wr.heap.size := ⟨_, rfl⟩
      have HA1 := Lib.hid (show Aut (wr.alloc (.cells (madeCells #[Value.int .i64 0] m) 2)) (w.heap.size + 1) (w.heap.size + 1) k (.slice aa n ca) vn [(.slice (some ⟨g, 0, none⟩) m m, tv m fun c => if c < 0 then nx i c else 0)] items from by
        have h1 := Lst.made wr (w.heap.size + 1) 2 (.int .i64 0) m (Kp.size HB.out) (by unfold maxLen; omega)
        rw [tv_rep] at h1
        rw [hg]
        exact HD.out.addInt ((Below.refl _ _).alloc (Nat.le_refl _) _) h1 (fun q hq => by cases hq; exact Nat.le_refl _))
      have HB1 := Lib.hid (show Kp w (wr.alloc (.cells (madeCells #[Value.int .i64 0] m) 2)) from Below.alloc HB.out (Kp.size HB.out) _)
      have HCI := Lib.hid (fun W (hb : Kp w W) (c : Nat) (hc : c < m) => HCC.out W (Kp.base hb) i c hlt hc)
      go_wp2_with (go_at_call 95; refine (HC.out _).mono ?_; rintro e w' ⟨rfl, rfl⟩)
      rw [← hg]
      clear hg
      go_loopw [10, 24] (fun _ s24 wr' => ∃ c : Nat, c ≤ m ∧ s24 = .int .i64 c ∧ Aut wr' (w.heap.size + 1) (w.heap.size + 1) k (.slice aa n ca) vn [(.slice (some ⟨g, 0, none⟩) m m, tv m fun q => if q < c then nx i q else 0)] items ∧ Kp w wr') (fun _ s24 _ => m - (intOf s24).toNat)
      case atStart => exact ⟨0, Nat.zero_le _, rfl, HA1.out, HB1.out⟩
      case round =>
        obtain ⟨c, hc, rfl, haut, hbel⟩ := hrel
        have HD2 := Lib.hid haut
        have HB2 := Lib.hid hbel
        clear haut hbel HA1 HB1 hmk
        by_cases hlc : c < m
        · have HLJ := Lib.hid (HL.out c (by omega))
          go_wp2_with fail
          refine (HLJ.out _).mono ?_
          rintro e w1 ⟨rfl, hb⟩
          have HD3 := Lib.hid (HD2.out.below hb)
          have HB3 := Lib.hid (show Kp w w1 from Below.trans HB2.out (hb.mono (Kp.size HB2.out)))
          clear hb
          go_wp2_with fail
          refine (HCI.out _ HB3.out c hlc).mono ?_
          rintro e w2 ⟨rfl, hb⟩
          have HD4 := Lib.hid (HD3.out.below hb)
          have HB4 := Lib.hid (show Kp w w2 from Below.trans HB3.out (hb.mono (Kp.size HB3.out)))
          have c9 := (Own.get [] _ HD4.out.own).cellOf (i := c) (by rw [tv_length]; exact hlc)
          have f9 := (Own.get [] _ HD4.out.own).free c
          rw [tv_get] at c9
          have hgl := (Own.get [] _ HD4.out.own).lt (k := g) rfl
          clear hb HD3 HB3
          go_wp2_with fail
          go_roundw
          case rel =>
            have h1 := Aut.setInt [] [] (i := c) HD4.out (by rw [tv_length]; exact hlc) (.int .i64 (nx i c))
            rw [tv_set] at h1
            refine ⟨c + 1, hlc, by go_num, ?_, HB4.out.setCell ((Own.get [] _ HD4.out.own).ge (k := g) rfl) _⟩
            rw [show (fun q => if q < c + 1 then nx i q else 0) = (fun q => if q = c then nx i c else if q < c then nx i q else 0) from funext fun q => by
              by_cases e : q = c
              · subst e; simp
              · have : (q < c + 1) = (q < c) := by apply propext; constructor <;> intro h <;> omega
                simp only [if_neg e, this]]
            exact h1
          case measure => simp [intOf]; omega
        · obtain rfl : c = m := by omega
          have HE4 := Lib.hid (show Aut wr (w.heap.size + 1) (w.heap.size + 1) k (.slice aa n ca) vn [(.slice (some ⟨g, 0, none⟩) c c, tv c (nx i))] items from by
            have h1 := HD2.out
            rw [tv_congr (S := nx i) (fun q hq => by rw [if_pos hq])] at h1
            exact h1)
          have HIL := Lib.hid (show (items.map Prod.fst).length ≤ 100000000 from by
            have := congrArg List.length HI.out
            rw [List.length_map, List.length_map, List.length_range] at this
            rw [List.length_map]; omega)
          have HS4 := Lib.hid (Kp.size HB2.out)
          have q3 := cells_get HE4.out.at_ 3
          have z3 := cells_free HE4.out.at_ 3
          have hl4 := HE4.out.lt
          simp at q3
          obtain ⟨a0, n0, c0, rfl, -⟩ := HE4.out.nxt.shape'
          go_wp2_with (at_builtin; refine wpList_push rfl _ _ 23 rfl 44 (.slice none 0 0) 24 Try.underlying23 info54 (by decide) (by decide) (w.heap.size + 1) (.slice a0 n0 c0) _ (.slice (some ⟨g, 0, none⟩) c c) HE4.out.nxt HS4.out rfl HIL.out rfl _ rfl rfl ?_; intro v5 w5 hp5; obtain ⟨a5, n5, cp5, rfl, HN5⟩ := hp5.lst.shape'; have o5 := HE4.out.obNext hp5; have q5 := (cells_get o5 3); have z5 := cells_free o5 3; have hl5 := (lt_of_block o5); have HE5 := Lib.hid (HE4.out.pushNext [] [] hp5); have HB5 := Lib.hid ((Below.grown HB2.out hp5.grow HS4.out (fun q hq => HE4.out.nxt.ge hq)).setCell (p := ⟨w.heap.size + 1, 3, none⟩) HE4.out.obB (.slice a5 n5 cp5)); simp at q5; clear hp5 o5)
          go_roundw
          case rel =>
            have h1 := HE5.out
            rw [List.nil_append] at h1
            refine ⟨i + 1, _, _, hlt, by go_num, h1, ?_, HB5.out⟩
            rw [List.map_append, HI.out, List.range_succ, List.map_append]; rfl
          case measure => simp [intOf]; omega
    · obtain rfl : i = n := by omega
      have hres := Kp.res HB.out
      obtain ⟨a5, n5, cp6, rfl, -⟩ := HD.out.nxt.shape'
      have y0 := cells_get HD.out.at_ 0
      have y1 := cells_get HD.out.at_ 1
      have y2 := cells_get HD.out.at_ 2
      have y3 := cells_get HD.out.at_ 3
      have hly := HD.out.lt
      have r0 := cells_get hres 0
      have r1 := cells_get hres 1
      have r2 := cells_get hres 2
      have r3 := cells_get hres 3
      have f0 := cells_free hres 0
      have f1 := cells_free hres 1
      have f2 := cells_free hres 2
      have f3 := cells_free hres 3
      have hlS := lt_of_block hres
      have p0 := cells_set hres 0 (.int .i64 k)
      have p1 := cells_set p0 1 (.int .i64 0)
      have p2 := cells_set p1 2 (.slice aa i ca)
      have p3 := cells_set p2 3 (.slice a5 n5 cp6)
      simp at y0 y1 y2 y3 r0 r1 r2 r3 p3
      have g0 := cells_get p3 0
      have g1 := cells_get p3 1
      have g2 := cells_get p3 2
      have g3 := cells_get p3 3
      simp at g0 g1 g2 g3
      have HG := Lib.hid (And.intro g0 (And.intro g1 (And.intro g2 g3)))
      have HRW := Lib.hid (show items.map Prod.snd = (autN k i nx).map fun r => r.map (Value.int .i64) from by
        rw [HI.out, HAE.out, List.map_map]
        refine List.map_congr_left fun q _ => ?_
        show tv m (nx q) = ((List.range m).map (nx q)).map (Value.int .i64)
        unfold tv; rw [List.map_map]; rfl)
      clear p0 p1 p2 p3 g0 g1 g2 g3 hres hmk
      go_wp2_with fail
      obtain ⟨g0, g1, g2, g3⟩ := HG.out
      refine bodyPost_ret (v := .agg #[.int .i64 k, .int .i64 0, .slice aa i ca, .slice a5 n5 cp6]) (by simp [results, Try.results87, go_sem, g0, g1, g2, g3]) rfl ⟨.slice a5 n5 cp6, rfl, ?_, ?_⟩
      · have hset : ∀ (W : World) (j : Nat) (u : Value), Aut W (w.heap.size + 1) (w.heap.size + 1) k (.slice aa i ca) (.slice a5 n5 cp6) [] items → Aut (W.setCell ⟨w.heap.size, j, none⟩ u) (w.heap.size + 1) (w.heap.size + 1) k (.slice aa i ca) (.slice a5 n5 cp6) [] items := fun W j u h => by
          have hne : ∀ (v : Value) (xs : List Value) (t : TypeId), Lst W (w.heap.size + 1) t v xs → v.ownBlock ≠ some w.heap.size := fun v xs t hl e => by have := hl.ge e; omega
          refine ⟨⟨fun p hp => (h.own.lst p hp).setOther (hne _ _ _ (h.own.lst p hp)) u, h.own.apart⟩, h.nxt.setOther (hne _ _ _ h.nxt) u, ?_, h.obB⟩
          rw [Below.heap_setCell _ _ _ _ (fun e => by have e : w.heap.size + 1 = w.heap.size := e; omega)]
          exact h.at_
        exact ((hset _ 3 _ (hset _ 2 _ (hset _ 1 _ (hset _ 0 _ HD.out)))).rows HRW.out).mono (Nat.le_succ _)
      · have HBW := Kp.base HB.out
        exact (((HBW.setCell (p := ⟨w.heap.size, 0, none⟩) (Nat.le_refl _) _).setCell (p := ⟨w.heap.size, 1, none⟩) (Nat.le_refl _) _).setCell (p := ⟨w.heap.size, 2, none⟩) (Nat.le_refl _) _).setCell (p := ⟨w.heap.size, 3, none⟩) (Nat.le_refl _) _
end Go.Proofs.Ytaebeglcoghehaa.Automaton
/- What the functions for the relation of the words of numbers hand back, the program's and the model's.
   Conditions: none. -/
namespace Go.Proofs.Ytaebeglcoghehaa.NumDom
set_option linter.unusedVariables false
set_option linter.unusedSimpArgs false
set_option maxRecDepth 100000
open Go.RowKit Mem Copy Rel Valid Heap Bld ColMath Columns Numbers ToL TidyAuto TidyRight SpecRight SpecTidyRel ImplRight Automaton Sim ResKit ClosedImpl

/-- The block of a result, not yet written. -/
structure Res0 (w : World) (Rb : Nat) (W : World) : Prop where
  base : Below w.heap.size w W
  res : W.heap[Rb]? = some (.cells #[Value.int .i64 0, .int .i64 0, .slice none 0 0, .slice none 0 0] 29 (0, 0))
  hR : w.heap.size ≤ Rb
theorem Res0.lt {w W : World} {Rb : Nat} (h : Res0 w Rb W) : Rb < W.heap.size := lt_of_block h.res
theorem Res0.step {w W W' : World} {Rb : Nat} (h : Res0 w Rb W) (hb : Below W.heap.size W W') : Res0 w Rb W' :=
  ⟨base_step h.base hb, by rw [hb.block Rb h.lt]; exact h.res, h.hR⟩
theorem Res0.new {w W : World} (h : Below w.heap.size w W) : Res0 w W.heap.size (W.alloc (.cells #[Value.int .i64 0, .int .i64 0, .slice none 0 0, .slice none 0 0] 29)) :=
  ⟨base_box h _, heap_alloc_new _ _, h.size⟩
theorem Res0.alloc {w W : World} {Rb : Nat} (h : Res0 w Rb W) (o : Obj) : Res0 w Rb (W.alloc o) := h.step ((Below.refl _ _).alloc (Nat.le_refl _) _)

def tab (T : List (List Nat)) (s c : Nat) : Int := (((T.getD s []).getD c 0 : Nat) : Int)
def tNum : List (List Nat) := [[1, 0], [1, 0]]
def iNum : L := ⟨1, 0, [true, false], tNum⟩
def rNum : R := ⟨1, 0, [true, false], autN 1 2 (tab tNum)⟩
theorem iNum_ok : iNum.Ok := ⟨by decide, by decide, by decide, by decide, by decide +kernel, by decide +kernel⟩
theorem iNum_rel : relOf iNum = ⟨1, 0, [true, false], [[1, 0], [1, 0]]⟩ := by kernel_rfl
theorem rNum_ok : okB rNum = true := by decide +kernel
theorem rNum_L : toL rNum = iNum := by kernel_rfl
theorem tidyNum : tidyA rNum = tidyAcc iNum ∧ tidyN rNum = tidyNext iNum ∧ tidyK rNum = 1 ∧ tidyC rNum = 0 := by
  have h := small (r := rNum) rNum_ok (by decide)
  rw [rNum_L] at h
  exact h
theorem lenNum : (tidyAcc iNum).length ≤ 150 := by
  have := tidyAcc_len iNum_ok
  have h : iNum.acc.length = 2 := rfl
  omega

/-- The rule, letter by letter. -/
theorem numRule (s c : Nat) (hs : s < 2) (hc : c < 2) (W : World) : Calls Try.prog 88 #[.int .i64 s, lettersV 1 c] W fun e w' => e = .returned (.int .i64 (tab tNum s c)) ∧ Below W.heap.size W w' := by
  have h1 : s = 0 ∨ s = 1 := by omega
  have h2 : c = 0 ∨ c = 1 := by omega
  rcases h1 with rfl | rfl <;> rcases h2 with rfl | rfl
  all_goals
    simp only [lettersV, letT, letA, pow3, tab, tNum]
    go_enter Try.func88, Try.ntmps88
    go_wp2
    go_ret
    exact ⟨rfl, (Below.refl _ _).alloc (Nat.le_refl _) _⟩

set_option maxHeartbeats 8000000 in
theorem implNum (w : World) : Calls Try.prog 40 #[] w fun e w' => ∃ va vn, e = .returned (.agg #[.int .i64 1, .int .i64 0, va, vn]) ∧ Built w' w.heap.size va vn (tidyAcc iNum) (tidyNext iNum) ∧ Below w.heap.size w w' := by
  obtain ⟨W1, hW1⟩ : ∃ W1, W1 = (w.alloc (.cells #[Value.int .i64 0, .int .i64 0, .slice none 0 0, .slice none 0 0] 29)).alloc (.cells #[.bool true, .bool false] 4) := ⟨_, rfl⟩
  have HR := Lib.hid (show Res0 w w.heap.size W1 by rw [hW1]; exact (Res0.new (Below.refl _ _)).alloc _)
  have HL := Lib.hid (show Lst W1 (w.heap.size + 1) 4 (.slice (some ⟨w.heap.size + 1, 0, none⟩) 2 2) ([true, false].map Value.bool) by
    rw [hW1]
    have := Lst.lit (w.alloc (.cells #[Value.int .i64 0, .int .i64 0, .slice none 0 0, .slice none 0 0] 29)) (w.heap.size + 1) 4 #[.bool true, .bool false] (by simp) (by decide)
    rw [size_alloc'] at this
    exact this)
  have HAU := Lib.hid (automaton 1 (by omega) (by omega) (.slice (some ⟨w.heap.size + 1, 0, none⟩) 2 2) [true, false] W1 W1.heap.size (lst_bools HL.out _ (Nat.le_refl _)) (Nat.le_refl _) (by decide) 88 (fun _ _ => rfl) #[] (tab tNum) (fun W hb s c hs hc => numRule s c hs hc W))
  go_enter Try.func40, Try.ntmps40
  go_wp2_with fail
  rw [← hW1]
  clear hW1
  refine HAU.out.mono ?_
  rintro e w2 ⟨vn, rfl, hbu, hb⟩
  have HR2 := Lib.hid (HR.out.step hb)
  have HB2 := Lib.hid (show Built w2 (w.heap.size + 1) (.slice (some ⟨w.heap.size + 1, 0, none⟩) 2 2) vn [true, false] (autN 1 2 (tab tNum)) from built_with (hbu.mono HR.out.lt) (HL.out.below hb))
  have HKN := Lib.hid (knownI (.agg #[.int .i64 1, .int .i64 0, .slice (some ⟨w.heap.size + 1, 0, none⟩) 2 2, vn]) rNum rNum_ok w2 w2.heap.size (HB2.out.reads _ (Nat.le_refl _) 1 0) (Nat.le_refl _))
  rw [tidyNum.1, tidyNum.2.1, tidyNum.2.2.1] at HKN
  obtain ⟨items2, -, hnx2, -⟩ := hbu.rows
  obtain ⟨a2, n2, c2, rfl, -⟩ := hnx2.shape'
  clear hbu hb HAU hnx2
  go_wp2_with fail
  refine HKN.out.mono ?_
  rintro e w3 ⟨va3, vn3, rfl, hbu, hb⟩
  have HR3 := Lib.hid (HR2.out.step hb)
  have HB3 := Lib.hid (show Built w3 (w.heap.size + 1) va3 vn3 (tidyAcc iNum) (tidyNext iNum) from hbu.mono HR2.out.lt)
  clear hbu hb HKN
  have hres := HR3.out.res
  obtain ⟨a7, n7, c7, rfl, -⟩ := HB3.out.acc.shape'
  obtain ⟨items7, -, hnx7, -⟩ := HB3.out.rows
  obtain ⟨b7, m7, d7, rfl, -⟩ := hnx7.shape'
  have r0 := cells_get hres 0
  have r1 := cells_get hres 1
  have r2 := cells_get hres 2
  have r3 := cells_get hres 3
  have f0 := cells_free hres 0
  have f1 := cells_free hres 1
  have f2 := cells_free hres 2
  have f3 := cells_free hres 3
  have hlS := HR3.out.lt
  have p0 := cells_set hres 0 (.int .i64 1)
  have p1 := cells_set p0 1 (.int .i64 0)
  have p2 := cells_set p1 2 (.slice a7 n7 c7)
  have p3 := cells_set p2 3 (.slice b7 m7 d7)
  simp at r0 r1 r2 r3 p3
  have g0 := cells_get p3 0
  have g1 := cells_get p3 1
  have g2 := cells_get p3 2
  have g3 := cells_get p3 3
  simp at g0 g1 g2 g3
  have HG := Lib.hid (And.intro g0 (And.intro g1 (And.intro g2 g3)))
  clear p0 p1 p2 p3 g0 g1 g2 g3 hres hnx7
  go_wp2_with fail
  obtain ⟨g0, g1, g2, g3⟩ := HG.out
  refine bodyPost_ret (v := .agg #[.int .i64 1, .int .i64 0, .slice a7 n7 c7, .slice b7 m7 d7]) (by simp [results, Try.results40, go_sem, g0, g1, g2, g3]) rfl ⟨.slice a7 n7 c7, .slice b7 m7 d7, rfl, ?_, ?_⟩
  · exact (((((HB3.out.setLow (a := ⟨w.heap.size, 0, none⟩) (Nat.lt_succ_self _) _).setLow (a := ⟨w.heap.size, 1, none⟩) (Nat.lt_succ_self _) _).setLow (a := ⟨w.heap.size, 2, none⟩) (Nat.lt_succ_self _) _).setLow (a := ⟨w.heap.size, 3, none⟩) (Nat.lt_succ_self _) _).mono (Nat.le_succ_of_le HR3.out.hR))
  · exact ((((HR3.out.base.setCell (p := ⟨w.heap.size, 0, none⟩) HR3.out.hR _).setCell (p := ⟨w.heap.size, 1, none⟩) HR3.out.hR _).setCell (p := ⟨w.heap.size, 2, none⟩) HR3.out.hR _).setCell (p := ⟨w.heap.size, 3, none⟩) HR3.out.hR _)

set_option maxHeartbeats 8000000 in
theorem specDomain (w : World) : Calls Try.prog 82 #[] w fun e w' => ∃ va vn, e = .returned (.agg #[.int .i64 1, .int .i64 0, va, vn]) ∧ Built w' w.heap.size va vn (tidyAcc iNum) (tidyNext iNum) ∧ Below w.heap.size w w' := by
  obtain ⟨A0, hA0⟩ : ∃ A0, A0 = (w.alloc (.cells #[Value.int .i64 0, .int .i64 0, .slice none 0 0, .slice none 0 0] 29)).alloc (.cells #[.bool true, .bool false] 4) := ⟨_, rfl⟩
  obtain ⟨A1, hA1⟩ : ∃ A1, A1 = A0.alloc (.cells #[.int .i64 1, .int .i64 0] 2) := ⟨_, rfl⟩
  obtain ⟨A2, hA2⟩ : ∃ A2, A2 = A1.alloc (.cells #[.int .i64 1, .int .i64 0] 2) := ⟨_, rfl⟩
  obtain ⟨W2, hW2⟩ : ∃ W2, W2 = A2.alloc (.cells #[.slice (some ⟨w.heap.size + 1 + 1, 0, none⟩) 2 2, .slice (some ⟨w.heap.size + 1 + 1 + 1, 0, none⟩) 2 2] 44) := ⟨_, rfl⟩
  have s0 : A0.heap.size = w.heap.size + 1 + 1 := by rw [hA0, size_alloc', size_alloc']
  have s1 : A1.heap.size = w.heap.size + 1 + 1 + 1 := by rw [hA1, size_alloc', s0]
  have s2 : A2.heap.size = w.heap.size + 1 + 1 + 1 + 1 := by rw [hA2, size_alloc', s1]
  have s3 : W2.heap.size = w.heap.size + 1 + 1 + 1 + 1 + 1 := by rw [hW2, size_alloc', s2]
  have b1 : Below A0.heap.size A0 A1 := by rw [hA1]; exact (Below.refl _ _).alloc (Nat.le_refl _) _
  have b2 : Below A1.heap.size A1 A2 := by rw [hA2]; exact (Below.refl _ _).alloc (Nat.le_refl _) _
  have b3 : Below A2.heap.size A2 W2 := by rw [hW2]; exact (Below.refl _ _).alloc (Nat.le_refl _) _
  have HR := Lib.hid (show Res0 w w.heap.size W2 from (((Res0.new (w := w) (Below.refl _ _)).alloc (.cells #[.bool true, .bool false] 4)).step (W' := A1) (by rw [← hA0]; exact b1)).step b2 |>.step b3)
  have hl : Lst A0 (w.heap.size + 1) 4 (.slice (some ⟨w.heap.size + 1, 0, none⟩) 2 2) ([true, false].map Value.bool) := by
    have := Lst.lit (w.alloc (.cells #[Value.int .i64 0, .int .i64 0, .slice none 0 0, .slice none 0 0] 29)) (w.heap.size + 1) 4 #[.bool true, .bool false] (by simp) (by decide)
    rw [size_alloc', ← hA0] at this
    exact this
  have r1 : Lst A1 (w.heap.size + 1) 2 (.slice (some ⟨w.heap.size + 1 + 1, 0, none⟩) 2 2) ([(1 : Int), 0].map (Value.int .i64)) := by
    have := Lst.lit A0 (w.heap.size + 1) 2 #[.int .i64 1, .int .i64 0] (by omega) (by decide)
    rw [s0, ← hA1] at this
    exact this
  have r2 : Lst A2 (w.heap.size + 1) 2 (.slice (some ⟨w.heap.size + 1 + 1 + 1, 0, none⟩) 2 2) ([(1 : Int), 0].map (Value.int .i64)) := by
    have := Lst.lit A1 (w.heap.size + 1) 2 #[.int .i64 1, .int .i64 0] (by omega) (by decide)
    rw [s1, ← hA2] at this
    exact this
  have r3 : Lst W2 (w.heap.size + 1) 44 (.slice (some ⟨w.heap.size + 1 + 1 + 1 + 1, 0, none⟩) 2 2) [.slice (some ⟨w.heap.size + 1 + 1, 0, none⟩) 2 2, .slice (some ⟨w.heap.size + 1 + 1 + 1, 0, none⟩) 2 2] := by
    have := Lst.lit A2 (w.heap.size + 1) 44 #[.slice (some ⟨w.heap.size + 1 + 1, 0, none⟩) 2 2, .slice (some ⟨w.heap.size + 1 + 1 + 1, 0, none⟩) 2 2] (by omega) (by simp)
    rw [s2, ← hW2] at this
    exact this
  have o1 : Own A1 (w.heap.size + 1) 2 [(.slice (some ⟨w.heap.size + 1 + 1, 0, none⟩) 2 2, [(1 : Int), 0].map (Value.int .i64))] := Own.addNew (Own.nil A0 _ _) b1 r1 (fun k hk => by cases hk; first | exact Nat.le_of_eq s0 | exact Nat.le_of_eq s1)
  have o2 := Own.perm ((o1.addNew b2 r2 (fun k hk => by cases hk; first | exact Nat.le_of_eq s0 | exact Nat.le_of_eq s1)).below b3) (List.Perm.swap _ _ _)
  have HBU : Built W2 (w.heap.size + 1) (.slice (some ⟨w.heap.size + 1, 0, none⟩) 2 2) (.slice (some ⟨w.heap.size + 1 + 1 + 1 + 1, 0, none⟩) 2 2) [true, false] [[1, 0], [1, 0]] :=
    ⟨((hl.below b1).below b2).below b3, _, o2, r3, rfl⟩
  obtain ⟨va', vn', ev, hva, hvn⟩ := HBU.reads W2.heap.size (Nat.le_refl _) 1 0
  simp at ev
  obtain ⟨rfl, rfl⟩ := ev
  have hp := RelPtr.boxed (r := ⟨1, 0, [true, false], [[1, 0], [1, 0]]⟩) hva hvn (Nat.le_refl _) 29
  rw [s3] at hp
  obtain ⟨W3, hW3⟩ : ∃ W3, W3 = W2.alloc (.cells #[.int .i64 1, .int .i64 0, .slice (some ⟨w.heap.size + 1, 0, none⟩) 2 2, .slice (some ⟨w.heap.size + 1 + 1 + 1 + 1, 0, none⟩) 2 2] 29) := ⟨_, rfl⟩
  have hsz3 : W3.heap.size = w.heap.size + 1 + 1 + 1 + 1 + 1 + 1 := by rw [hW3, size_alloc', s3]
  have hp3 : RelPtr W3 (w.heap.size + 1 + 1 + 1 + 1 + 1) (w.heap.size + 1 + 1 + 1 + 1 + 1) ⟨1, 0, [true, false], [[1, 0], [1, 0]]⟩ := by rw [hW3]; exact hp
  have HT := Lib.hid (SpecTidied.tidied iNum iNum_ok (w.heap.size + 1 + 1 + 1 + 1 + 1) W3 W3.heap.size (by rw [iNum_rel]; exact SpecTidied.RelPtr.mono hp3 (by omega)) (Nat.le_refl _) (by omega) (by show 2 ≤ 100000; omega))
  rw [show ((iNum.k : Nat) : Int) = 1 from rfl] at HT
  have HR3 := Lib.hid (show Res0 w w.heap.size W3 by rw [hW3]; exact HR.out.alloc _)
  have HWW := Lib.hid (show W3 = ((((((w.alloc (.cells #[Value.int .i64 0, .int .i64 0, .slice none 0 0, .slice none 0 0] 29)).alloc (.cells #[.bool true, .bool false] 4)).alloc (.cells #[.int .i64 1, .int .i64 0] 2)).alloc (.cells #[.int .i64 1, .int .i64 0] 2)).alloc (.cells #[.slice (some ⟨w.heap.size + 1 + 1, 0, none⟩) 2 2, .slice (some ⟨w.heap.size + 1 + 1 + 1, 0, none⟩) 2 2] 44))).alloc (.cells #[.int .i64 1, .int .i64 0, .slice (some ⟨w.heap.size + 1, 0, none⟩) 2 2, .slice (some ⟨w.heap.size + 1 + 1 + 1 + 1, 0, none⟩) 2 2] 29) by rw [hW3, hW2, hA2, hA1, hA0])
  clear hW3 hW2 hA2 hA1 hA0 s0 s1 s2 s3 b1 b2 b3 hl r1 r2 r3 o1 o2 HBU hva hvn hp hp3 hsz3 HR
  go_enter Try.func82, Try.ntmps82
  go_wp2_with fail
  rw [← HWW.out]
  refine HT.out.mono ?_
  rintro e w3 ⟨va3, vn3, rfl, hbu, hb⟩
  have HR4 := Lib.hid (HR3.out.step hb)
  have HB3 := Lib.hid (show Built w3 (w.heap.size + 1) va3 vn3 (tidyAcc iNum) (tidyNext iNum) from hbu.mono HR3.out.lt)
  clear hbu hb HT HR3
  have hres := HR4.out.res
  obtain ⟨a7, n7, c7, rfl, -⟩ := HB3.out.acc.shape'
  obtain ⟨items7, -, hnx7, -⟩ := HB3.out.rows
  obtain ⟨b7, m7, d7, rfl, -⟩ := hnx7.shape'
  have r0 := cells_get hres 0
  have r1 := cells_get hres 1
  have r2 := cells_get hres 2
  have r3 := cells_get hres 3
  have f0 := cells_free hres 0
  have f1 := cells_free hres 1
  have f2 := cells_free hres 2
  have f3 := cells_free hres 3
  have hlS := HR4.out.lt
  have p0 := cells_set hres 0 (.int .i64 1)
  have p1 := cells_set p0 1 (.int .i64 0)
  have p2 := cells_set p1 2 (.slice a7 n7 c7)
  have p3 := cells_set p2 3 (.slice b7 m7 d7)
  simp at r0 r1 r2 r3 p3
  have g0 := cells_get p3 0
  have g1 := cells_get p3 1
  have g2 := cells_get p3 2
  have g3 := cells_get p3 3
  simp at g0 g1 g2 g3
  have HG := Lib.hid (And.intro g0 (And.intro g1 (And.intro g2 g3)))
  clear p0 p1 p2 p3 g0 g1 g2 g3 hres hnx7
  go_wp2_with fail
  obtain ⟨g0, g1, g2, g3⟩ := HG.out
  refine bodyPost_ret (v := .agg #[.int .i64 1, .int .i64 0, .slice a7 n7 c7, .slice b7 m7 d7]) (by simp [results, Try.results82, go_sem, g0, g1, g2, g3]) rfl ⟨.slice a7 n7 c7, .slice b7 m7 d7, rfl, ?_, ?_⟩
  · exact (((((HB3.out.setLow (a := ⟨w.heap.size, 0, none⟩) (Nat.lt_succ_self _) _).setLow (a := ⟨w.heap.size, 1, none⟩) (Nat.lt_succ_self _) _).setLow (a := ⟨w.heap.size, 2, none⟩) (Nat.lt_succ_self _) _).setLow (a := ⟨w.heap.size, 3, none⟩) (Nat.lt_succ_self _) _).mono (Nat.le_succ_of_le HR4.out.hR))
  · exact ((((HR4.out.base.setCell (p := ⟨w.heap.size, 0, none⟩) HR4.out.hR _).setCell (p := ⟨w.heap.size, 1, none⟩) HR4.out.hR _).setCell (p := ⟨w.heap.size, 2, none⟩) HR4.out.hR _).setCell (p := ⟨w.heap.size, 3, none⟩) HR4.out.hR _)

end Go.Proofs.Ytaebeglcoghehaa.NumDom
/- What the program answers that is asked whether a relation is a set of numbers.
   Conditions: the relation is read as XMem's text says. -/
namespace Go.Proofs.Ytaebeglcoghehaa.NumSetI
set_option linter.unusedVariables false
set_option linter.unusedSimpArgs false
set_option linter.ambiguousOpen false
set_option maxRecDepth 100000
open Go.RowKit Mem Copy Rel Valid Heap Columns Bld ToL TidyMath TidyClass TidyAuto TidyRight SpecFiner SpecRight PairMath Alike EqI ContI NumDom

/-- The tidy relation of the words of numbers. -/
def domR : R := ⟨1, 0, tidyAcc iNum, tidyNext iNum⟩
theorem dom_ok : okB domR = true := by decide +kernel
noncomputable def numV (r : R) : Bool := liesV r domR
def numC (r : R) : Int := alikeC r domR
theorem num_bad {r : R} (h : okB r = false) : numV r = false ∧ numC r = 1 := by
  have e : alikeC r domR = 1 := by simp [alikeC, h]
  exact ⟨by unfold numV liesV; rw [e]; rfl, e⟩
theorem num_wide {r : R} (h : okB r = true) (h1 : r.tapes ≠ 1) : numV r = false ∧ numC r = 2 := by
  have e : alikeC r domR = 2 := by
    unfold alikeC
    rw [if_pos h, if_pos dom_ok, if_neg (show r.tapes ≠ domR.tapes from h1)]
  exact ⟨by unfold numV liesV; rw [e]; rfl, e⟩
theorem num_one {r : R} (h : okB r = true) (h1 : r.tapes = 1) : numC r = 0 := by
  unfold numC alikeC
  rw [if_pos h, if_pos dom_ok, if_pos (show r.tapes = domR.tapes from h1)]
def E1 (w : World) (c : Array Value) (W : World) : Prop := Below (w.heap.size + 1) (w.alloc (.cells c 29)) W
theorem E1.size {w W : World} {c : Array Value} (h : E1 w c W) : w.heap.size + 1 ≤ W.heap.size := by have := Below.size h; rwa [size_alloc'] at this
theorem E1.base {w W : World} {c : Array Value} (h : E1 w c W) : Below w.heap.size w W := ((Below.refl _ _).alloc (Nat.le_refl _) _).trans (Below.mono h (Nat.le_succ _))
theorem E1.box {w W : World} {c : Array Value} (h : E1 w c W) : W.heap[w.heap.size]? = some (.cells c 29 (0, 0)) := (Below.block h _ (Nat.lt_succ_self _)).trans (heap_alloc_new _ _)
theorem E1.go {w W W' : World} {c : Array Value} (h : E1 w c W) (hb : Below W.heap.size W W') : E1 w c W' := Below.trans h (hb.mono (E1.size h))
theorem E1.drew {w W : World} {c : Array Value} (h : E1 w c W) : E1 w c W.drew := below_drewN h 1

set_option maxHeartbeats 8000000 in
theorem numSetI (v : Value) (r : R) (w : World) (B : Nat) (h : RelAt w B v r) (hB : B ≤ w.heap.size) :
    Calls Try.prog 12 #[v] w fun e w' => e = .returned (.tuple #[.bool (numV r), .int .i64 (numC r)]) ∧ Below w.heap.size w w' := by
  have HEQ := Lib.hid (fun W u (hb : Below w.heap.size w W) (hu : RelAt W W.heap.size u domR) => show Calls Try.prog 39 #[v, u] W fun e w' => e = .returned (.tuple #[.bool (numV r), .int .i64 (numC r)]) ∧ Below W.heap.size W w' from
    containedI v u r domR W W.heap.size ((h.below hb hB).mono (Nat.le_trans hB hb.size)) hu (Nat.le_refl _))
  obtain ⟨V, hV⟩ : ∃ x, x = numV r := ⟨_, rfl⟩
  obtain ⟨C, hC⟩ : ∃ x, x = numC r := ⟨_, rfl⟩
  rw [← hV, ← hC] at HEQ
  rw [← hV, ← hC]
  clear hV hC
  obtain ⟨va, vn, rfl, ha, hn⟩ := h
  obtain ⟨aa1, ba, oa, ca1, rfl, -, -, -⟩ := ha
  obtain ⟨-, ⟨ab1, bb, ob, cb1, rfl, -, -, -⟩, -⟩ := hn
  obtain ⟨k1, hk⟩ : ∃ x, x = r.tapes := ⟨_, rfl⟩
  obtain ⟨st1, hst⟩ : ∃ x, x = r.start := ⟨_, rfl⟩
  obtain ⟨na1, hna⟩ : ∃ x, x = r.accept.length := ⟨_, rfl⟩
  obtain ⟨nb1, hnb⟩ : ∃ x, x = r.next.length := ⟨_, rfl⟩
  rw [← hk, ← hst, ← hna, ← hnb] at HEQ
  rw [← hk, ← hst, ← hna, ← hnb]
  clear hk hst hna hnb hB
  have HK3 := Lib.hid (show E1 w #[.int .i64 k1, .int .i64 st1, .slice aa1 na1 ca1, .slice ab1 nb1 cb1] (w.alloc (.cells #[.int .i64 k1, .int .i64 st1, .slice aa1 na1 ca1, .slice ab1 nb1 cb1] 29)) from Below.refl _ _)
  have HNT := Lib.hid (fun W => implNum W)
  have HEA := Lib.hid (HEQ.out)
  clear HEQ
  go_enter Try.func12, Try.ntmps12
  go_wp2_with fail
  go_region_with (first
    | (go_at_call 40; refine (HNT.out _).mono ?_; rintro e w4 ⟨va4, vn4, rfl, hbu, hb4⟩; have HK4 := Lib.hid (E1.go (E1.drew HK3.out) hb4); have HR4 := Lib.hid (hbu.reads w4.heap.size (Nat.le_refl _) (1 : Int) 0); clear hbu hb4; have x0 := cells_get (E1.box HK4.out) 0; have x1 := cells_get (E1.box HK4.out) 1; have x2 := cells_get (E1.box HK4.out) 2; have x3 := cells_get (E1.box HK4.out) 3; simp at x0 x1 x2 x3; have hl := E1.size HK4.out)
    | (go_at_call 39; refine (HEA.out _ _ (E1.base HK4.out) HR4.out).mono ?_; rintro e w5 ⟨rfl, hb5⟩; have HB5 := Lib.hid ((E1.base HK4.out).trans (hb5.mono (E1.base HK4.out).size)); clear hb5))
  all_goals go_wp2
  all_goals go_ret2
  all_goals exact ⟨rfl, HB5.out⟩
end Go.Proofs.Ytaebeglcoghehaa.NumSetI
