
/- The words that columns spell, as the program makes them.
   Conditions: one to three tapes, and columns of theirs. -/
import Derived.Test.YtjplmmokbkkclaaFM23
import Derived.Test.YtjplmmokbkkclaaFM6
import Derived.Laws.BytesArg
import Derived.Test.YtjplmmokbkkclaaFM19
import Derived.Test.YtjplmmokbkkclaaFM11
import Derived.Test.YtjplmmokbkkclaaFM2
namespace Go.Proofs.Ytjplmmokbkkclaa.ImplSpell
set_option linter.unusedVariables false
open Go.RowKit Mem Copy Rel Heap Bld Columns ColMath TupMath Numbers TidyRight Pads RightMath

theorem info8 : (Try.prog.info? 5).map (fun i => (i.zero, i.size, i.bytes)) = some (some (.int .u8 0), 1, 1) := by kernel_rfl
theorem at0 (a b c : Value) (w : World) : (Instr.index 77 (.agg #[a, b, c]) (.int .i64 0)).run Try.prog w = .ok a w := by kernel_rfl
theorem at1 (a b c : Value) (w : World) : (Instr.index 77 (.agg #[a, b, c]) (.int .i64 1)).run Try.prog w = .ok b w := by kernel_rfl
theorem at2 (a b c : Value) (w : World) : (Instr.index 77 (.agg #[a, b, c]) (.int .i64 2)).run Try.prog w = .ok c w := by kernel_rfl
def bv (xs : List Int) : List Value := xs.map (Value.int .u8)
theorem bv_len (xs : List Int) : (bv xs).length = xs.length := by simp [bv]
theorem bv_add (xs : List Int) (x : Int) : bv xs ++ [.int .u8 x] = bv (xs ++ [x]) := by simp [bv]

/-- The array in block ob holds three lists of bytes. -/
structure Wr (w : World) (B ob : Nat) (v0 v1 v2 : Value) (x0 x1 x2 : List Int) : Prop where
  own : Own w B 5 [(v0, bv x0), (v1, bv x1), (v2, bv x2)]
  at_ : w.heap[ob]? = some (.cells #[v0, v1, v2] 75 (0, 0))
  obB : B ≤ ob

variable {w w' : World} {B ob : Nat} {v0 v1 v2 v' : Value} {x0 x1 x2 : List Int} {l : Int}
theorem Wr.below (h : Wr w B ob v0 v1 v2 x0 x1 x2) (hb : Below w.heap.size w w') : Wr w' B ob v0 v1 v2 x0 x1 x2 :=
  ⟨h.own.below hb, by rw [hb.block ob (lt_of_block h.at_)]; exact h.at_, h.obB⟩
theorem Wr.setOther {a : Addr} {c : Array Value} {t' : TypeId} {r : Nat × Nat} (h : Wr w B ob v0 v1 v2 x0 x1 x2) (hne : ob ≠ a.block) (hb : w.heap[a.block]? = some (.cells c t' r)) (ht : 5 ≠ t') (u : Value) : Wr (w.setCell a u) B ob v0 v1 v2 x0 x1 x2 :=
  ⟨h.own.setOther hb ht u, by rw [Below.heap_setCell _ _ _ _ hne]; exact h.at_, h.obB⟩
theorem Wr.l0 (h : Wr w B ob v0 v1 v2 x0 x1 x2) : Lst w B 5 v0 (bv x0) := Own.get [] [_, _] h.own
theorem Wr.l1 (h : Wr w B ob v0 v1 v2 x0 x1 x2) : Lst w B 5 v1 (bv x1) := Own.get [_] [_] h.own
theorem Wr.l2 (h : Wr w B ob v0 v1 v2 x0 x1 x2) : Lst w B 5 v2 (bv x2) := Own.get [_, _] [] h.own
theorem Wr.at' {v u : Value} {xs : List Value} (h : Wr w B ob v0 v1 v2 x0 x1 x2) (hl : Lst w B 5 v xs) (hp : Pushed w w' B 5 v v' xs u) : w'.heap[ob]? = some (.cells #[v0, v1, v2] 75 (0, 0)) := by
  rw [hp.grow.block ob (lt_of_block h.at_) fun e => block_apart hl h.at_ (by decide) e.symm]; exact h.at_
theorem Wr.push0 (h : Wr w B ob v0 v1 v2 x0 x1 x2) (hp : Pushed w w' B 5 v0 v' (bv x0) (.int .u8 l)) : Wr (w'.setCell ⟨ob, 0, none⟩ v') B ob v' v1 v2 (x0 ++ [l]) x1 x2 := by
  have hob := h.at' h.l0 hp
  have ho := Own.push [] [_, _] h.own hp
  rw [bv_add] at ho
  exact ⟨ho.setOther (a := ⟨ob, 0, none⟩) hob (by decide) _, cells_set hob 0 v', h.obB⟩
theorem Wr.push1 (h : Wr w B ob v0 v1 v2 x0 x1 x2) (hp : Pushed w w' B 5 v1 v' (bv x1) (.int .u8 l)) : Wr (w'.setCell ⟨ob, 1, none⟩ v') B ob v0 v' v2 x0 (x1 ++ [l]) x2 := by
  have hob := h.at' h.l1 hp
  have ho := Own.push [_] [_] h.own hp
  rw [bv_add] at ho
  exact ⟨ho.setOther (a := ⟨ob, 1, none⟩) hob (by decide) _, cells_set hob 1 v', h.obB⟩
theorem Wr.push2 (h : Wr w B ob v0 v1 v2 x0 x1 x2) (hp : Pushed w w' B 5 v2 v' (bv x2) (.int .u8 l)) : Wr (w'.setCell ⟨ob, 2, none⟩ v') B ob v0 v1 v' x0 x1 (x2 ++ [l]) := by
  have hob := h.at' h.l2 hp
  have ho := Own.push [_, _] [] h.own hp
  rw [bv_add] at ho
  exact ⟨ho.setOther (a := ⟨ob, 2, none⟩) hob (by decide) _, cells_set hob 2 v', h.obB⟩

/-- The letters of a word, of which the one of the column k may be there already. -/
def upto (cs : List Nat) (k : Nat) (b : Bool) (n t : Nat) : List Int := if t < n then wd ((cs.map Int.ofNat).take (if b = true then k + 1 else k)) t else []

theorem letT_wd {cs : List Nat} {n k t : Nat} (hk : k < cs.length) (ht : t < 3) (h3 : n ≤ 3) (h : letT n ((cs.getD k 0 : Nat) : Int) t = 35) : upto cs k true n t = upto cs k false n t := by
  unfold upto
  by_cases hn : t < n
  · rw [if_pos hn, if_pos hn, if_pos rfl, if_neg (by decide)]
    refine wd_pad (by rw [List.length_map]; exact hk) ?_
    rw [getD_nat, dg_nat _ _ ht, (letT_pad n _ t hn h3).1 h]; rfl
  · rw [if_neg hn, if_neg hn]
theorem letT_wd' {cs : List Nat} {n k t : Nat} (hk : k < cs.length) (ht : t < 3) (h3 : n ≤ 3) (h : ¬ letT n ((cs.getD k 0 : Nat) : Int) t = 35) : upto cs k true n t = upto cs k false n t ++ [letT n ((cs.getD k 0 : Nat) : Int) t] := by
  have hn : t < n := by
    apply Decidable.byContradiction
    intro hn
    exact h (by unfold letT; rw [if_neg hn])
  unfold upto
  rw [if_pos hn, if_pos hn, if_pos rfl, if_neg (by decide)]
  have hd : ¬ cs.getD k 0 / 3 ^ t % 3 = 2 := fun e => h ((letT_pad n _ t hn h3).2 e)
  rw [wd_letter (by rw [List.length_map]; exact hk) (by rw [getD_nat, dg_nat _ _ ht]; omega)]
  congr 2
  rw [getD_nat, dg_nat _ _ ht]
  unfold letT
  rw [if_pos hn]
  have e : (((cs.getD k 0 : Nat) : Int) / pow3 t % 3) = ((cs.getD k 0 / 3 ^ t % 3 : Nat) : Int) := dg_nat _ _ ht
  rw [e]
  have : cs.getD k 0 / 3 ^ t % 3 = 0 ∨ cs.getD k 0 / 3 ^ t % 3 = 1 := by omega
  rcases this with h | h <;> rw [h] <;> simp [letA]
theorem upto_next (cs : List Nat) (k n t : Nat) : upto cs k true n t = upto cs (k + 1) false n t := by unfold upto; simp
theorem upto_zero (cs : List Nat) (n t : Nat) : upto cs 0 false n t = [] := by unfold upto; simp [wd]
theorem upto_len (cs : List Nat) (k : Nat) (b : Bool) (n t : Nat) : (upto cs k b n t).length ≤ cs.length := by
  unfold upto
  by_cases h : t < n
  · rw [if_pos h]
    have := wd_len ((cs.map Int.ofNat).take (if b = true then k + 1 else k)) t
    rw [List.length_take, List.length_map] at this
    omega
  · rw [if_neg h]; exact Nat.zero_le _

theorem conv {v : Value} {xs : List Int} (h : Lst w B 5 v (bv xs)) : (convert 74 9 v).run Try.prog w = .ok (.string (strOfNums xs)) w := by
  by_cases h0 : 0 < xs.length
  · obtain ⟨g, cap, rfl, -, hc, -⟩ := h.view (by rw [bv_len]; exact h0)
    rw [bv_len]
    refine run_convert_bytes_arg _ 74 5 Try.underlying74 Try.underlying5 g 0 xs.length cap xs rfl (fun i hi => ?_) 9 Try.underlying9
    rw [Nat.zero_add, hc i (by rw [bv_len]; exact hi)]
    simp [bv, List.getD, hi]
  · have e : xs = [] := List.eq_nil_of_length_eq_zero (by omega)
    subst e
    rcases h.2 with ⟨rfl, -⟩ | ⟨g, cap, cur, rfl, -⟩
    · have := run_convert_bytes_nil (P := Try.prog) w 74 5 Try.underlying74 Try.underlying5 0 0 9 Try.underlying9
      exact this
    · exact run_convert_bytes_arg _ 74 5 Try.underlying74 Try.underlying5 g 0 0 cap [] rfl (fun i hi => absurd hi (Nat.not_lt_zero i)) 9 Try.underlying9

set_option maxRecDepth 8000 in
set_option maxHeartbeats 8000000 in
theorem wordsOf (n : Nat) (cs : List Nat) (va : Value) (w : World) (C : Nat) (h1 : 1 ≤ n) (h3 : n ≤ 3) (ha : Ints w C va (cs.map Int.ofNat)) (hC : C ≤ w.heap.size) (hc : ∀ i, i < cs.length → cs.getD i 0 < wide n) (hlen : cs.length ≤ 100000) :
    Calls Try.prog 35 #[.int .i64 n, va] w fun e w' => ∃ N, w.heap.size ≤ N ∧ e = .returned (.slice (some ⟨N, 0, none⟩) n n) ∧ w'.rowIs N 9 n (fun u => .string (strOfNums (wd (cs.map Int.ofNat) u))) ∧ Below w.heap.size w w' := by
  have h26 : wide n ≤ 26 := by have := wide_cases h1 h3; omega
  have HL := Lib.hid (fun (c : Nat) (hc : c < 26) W => lettersAny n h1 h3 (c : Int) (by omega) (by omega) W)
  obtain ⟨a, b, off, cap, rfl, hma, haa, hca⟩ := ha
  rw [List.length_map] at hma haa hca
  rw [List.length_map]
  obtain ⟨m, hm⟩ : ∃ m, m = cs.length := ⟨_, rfl⟩
  rw [← hm] at hma haa hca hc hlen
  rw [← hm]
  have HM := Lib.hid hm
  clear hm hma
  obtain ⟨M, hM⟩ : ∃ M, M = w.heap.size := ⟨_, rfl⟩
  have HW0 := Lib.hid (show Wr (w.alloc (.cells #[.slice none 0 0, .slice none 0 0, .slice none 0 0] 75)) M M (.slice none 0 0) (.slice none 0 0) (.slice none 0 0) (upto cs 0 false n 0) (upto cs 0 false n 1) (upto cs 0 false n 2) by
    rw [upto_zero, upto_zero, upto_zero]
    refine ⟨?_, by rw [hM]; exact heap_alloc_new _ _, Nat.le_refl _⟩
    refine Own.add (Own.add (Own.add (Own.nil _ _ _) (Lst.nil _ _ _) ?_) (Lst.nil _ _ _) ?_) (Lst.nil _ _ _) ?_
    all_goals (intro p hp k hk; cases hk))
  have HB0 := Lib.hid (show Below w.heap.size w (w.alloc (.cells #[.slice none 0 0, .slice none 0 0, .slice none 0 0] 75)) from (Below.refl _ _).alloc (Nat.le_refl _) _)
  go_enter Try.func35, Try.ntmps35
  have HMM := Lib.hid hM
  go_wp2_with fail
  rw [← hM]
  clear hM
  go_loopw [7, 8, 9, 14, 20, 21] (fun _ _ _ i _ _ wr => ∃ (k : Nat) (v0 v1 v2 : Value), k ≤ m ∧ i = .int .i64 k ∧ Wr wr M M v0 v1 v2 (upto cs k false n 0) (upto cs k false n 1) (upto cs k false n 2) ∧ Below w.heap.size w wr) (fun _ _ _ i _ _ _ => m - (intOf i).toNat)
  case atStart => exact ⟨0, _, _, _, Nat.zero_le _, rfl, HW0.out, HB0.out⟩
  case round =>
    obtain ⟨k, v0, v1, v2, hk, rfl, hwr, hbel⟩ := hrel
    have HW := Lib.hid hwr
    have HB := Lib.hid hbel
    clear hwr HW0 HB0
    by_cases hlt : k < m
    · obtain ⟨rfl, hb⟩ := haa (by omega)
      have cA := (hbel.cell (p := ⟨b, off + k, none⟩) (by show b < _; omega)).trans (hca k hlt)
      rw [getD_nat] at cA
      have hck := hc k hlt
      have hkl : k < cs.length := by rw [← HM.out]; exact hlt
      have hl0 := Lib.hid (letT_wd (n := n) (t := 0) hkl (by omega) h3)
      have hl1 := Lib.hid (letT_wd (n := n) (t := 1) hkl (by omega) h3)
      have hl2 := Lib.hid (letT_wd (n := n) (t := 2) hkl (by omega) h3)
      have hn0 := Lib.hid (letT_wd' (n := n) (t := 0) hkl (by omega) h3)
      have hn1 := Lib.hid (letT_wd' (n := n) (t := 1) hkl (by omega) h3)
      have hn2 := Lib.hid (letT_wd' (n := n) (t := 2) hkl (by omega) h3)
      have HLC := Lib.hid (HL.out (cs.getD k 0) (Nat.lt_of_lt_of_le hck h26))
      obtain ⟨c, hcc⟩ : ∃ c, c = cs.getD k 0 := ⟨_, rfl⟩
      rw [← hcc] at cA hl0 hl1 hl2 hn0 hn1 hn2 HLC
      unfold lettersV at HLC
      obtain ⟨e0, he0⟩ : ∃ e, e = letT n (c : Int) 0 := ⟨_, rfl⟩
      obtain ⟨e1, he1⟩ : ∃ e, e = letT n (c : Int) 1 := ⟨_, rfl⟩
      obtain ⟨e2, he2⟩ : ∃ e, e = letT n (c : Int) 2 := ⟨_, rfl⟩
      rw [← he0] at HLC hl0 hn0
      rw [← he1] at HLC hl1 hn1
      rw [← he2] at HLC hl2 hn2
      have HLE := Lib.hid (fun t => upto_len cs k false n t)
      have hlb : b < wr.heap.size := by have := hbel.size; omega
      clear hcc he0 he1 he2 hca hc haa hbel
      go_wp2_with fail
      refine (HLC.out _).mono ?_
      rintro e w1 ⟨rfl, hb1⟩
      have HW1 := Lib.hid (HW.out.below hb1)
      have HB1 := Lib.hid (base_step HB.out hb1)
      clear hb1
      go_wp2_with fail
      have HLEN := Lib.hid (show ∀ t, (bv (upto cs k false n t)).length ≤ 100000000 from fun t => by rw [bv_len]; have := HLE.out t; have := HM.out; omega)
      go_loopw [8, 9, 21] (fun _ _ t wr => ∃ (u : Nat) (v0 v1 v2 : Value), u ≤ 3 ∧ t = .int .i64 u ∧ Wr wr M M v0 v1 v2 (upto cs k (decide (0 < u)) n 0) (upto cs k (decide (1 < u)) n 1) (upto cs k (decide (2 < u)) n 2) ∧ Below w.heap.size w wr) (fun _ _ t _ => 3 - (intOf t).toNat)
      case atStart => exact ⟨0, _, _, _, by omega, rfl, HW1.out, HB1.out⟩
      case round =>
        obtain ⟨u, v0, v1, v2, hu, rfl, hwr, hbel⟩ := hrel
        have HB2 := Lib.hid hbel
        have HSZ2 := Lib.hid (show M ≤ wr.heap.size by have := hbel.size; have := HMM.out; omega)
        clear hbel HW HB HW1 HB1 cA hlb
        have h4 : u = 0 ∨ u = 1 ∨ u = 2 ∨ u = 3 := by omega
        rcases h4 with rfl | rfl | rfl | rfl
        all_goals (have HW2 := Lib.hid hwr; clear hwr)
        · have cx := at0 (.int .u8 e0) (.int .u8 e1) (.int .u8 e2)
          obtain ⟨a0, n0, c0, rfl, -⟩ := HW2.out.l0.shape'
          have cw := cells_get HW2.out.at_ 0
          have cf := cells_free HW2.out.at_ 0
          have hob := lt_of_block HW2.out.at_
          simp at cw
          by_cases he : e0 = 35
          · subst he
            go_wp2_with fail
            go_roundw
            case rel => exact ⟨0 + 1, _, _, _, by omega, by go_num, by rw [show (decide (0 < 0 + 1)) = true from rfl, hl0.out rfl]; exact HW2.out, HB2.out⟩
            case measure => simp [intOf]
          · have hne : (e0 != 35) = true := by simp [he]
            go_wp2_with (at_builtin; refine wpList_push rfl _ _ 74 rfl 5 (.int .u8 0) 1 Try.underlying74 info8 (by decide) (by decide) M _ _ (.int .u8 e0) HW2.out.l0 HSZ2.out rfl (HLEN.out 0) rfl _ rfl rfl ?_; intro v5 w5 hp5; obtain ⟨a5, n5, cp5, rfl, -⟩ := hp5.lst.shape'; have o5 := HW2.out.at' HW2.out.l0 hp5; have q5 := (cells_get o5 0); have z5 := cells_free o5 0; have hl5 := (lt_of_block o5); have HW5 := Lib.hid (HW2.out.push0 hp5); have HB5 := Lib.hid ((HB2.out.grown hp5.grow HB2.out.size (fun q hq => by rw [← HMM.out]; exact HW2.out.l0.ge hq)).setCell (p := ⟨M, 0, none⟩) (by rw [HMM.out]; exact Nat.le_refl _) (.slice a5 n5 cp5)); simp at q5; clear hp5 o5)
            go_roundw
            case rel => exact ⟨0 + 1, _, _, _, by omega, by go_num, by rw [show (decide (0 < 0 + 1)) = true from rfl, hn0.out he]; exact HW5.out, HB5.out⟩
            case measure => simp [intOf]
        · have cx := at1 (.int .u8 e0) (.int .u8 e1) (.int .u8 e2)
          obtain ⟨a1, n1, c1, rfl, -⟩ := HW2.out.l1.shape'
          have cw := cells_get HW2.out.at_ 1
          have cf := cells_free HW2.out.at_ 1
          have hob := lt_of_block HW2.out.at_
          simp at cw
          by_cases he : e1 = 35
          · subst he
            go_wp2_with fail
            go_roundw
            case rel => exact ⟨1 + 1, _, _, _, by omega, by go_num, by rw [show (decide (1 < 1 + 1)) = true from rfl, hl1.out rfl]; exact HW2.out, HB2.out⟩
            case measure => simp [intOf]
          · have hne : (e1 != 35) = true := by simp [he]
            go_wp2_with (at_builtin; refine wpList_push rfl _ _ 74 rfl 5 (.int .u8 0) 1 Try.underlying74 info8 (by decide) (by decide) M _ _ (.int .u8 e1) HW2.out.l1 HSZ2.out rfl (HLEN.out 1) rfl _ rfl rfl ?_; intro v5 w5 hp5; obtain ⟨a5, n5, cp5, rfl, -⟩ := hp5.lst.shape'; have o5 := HW2.out.at' HW2.out.l1 hp5; have q5 := (cells_get o5 1); have z5 := cells_free o5 1; have hl5 := (lt_of_block o5); have HW5 := Lib.hid (HW2.out.push1 hp5); have HB5 := Lib.hid ((HB2.out.grown hp5.grow HB2.out.size (fun q hq => by rw [← HMM.out]; exact HW2.out.l1.ge hq)).setCell (p := ⟨M, 1, none⟩) (by rw [HMM.out]; exact Nat.le_refl _) (.slice a5 n5 cp5)); simp at q5; clear hp5 o5)
            go_roundw
            case rel => exact ⟨1 + 1, _, _, _, by omega, by go_num, by rw [show (decide (1 < 1 + 1)) = true from rfl, hn1.out he]; exact HW5.out, HB5.out⟩
            case measure => simp [intOf]
        · have cx := at2 (.int .u8 e0) (.int .u8 e1) (.int .u8 e2)
          obtain ⟨a2, n2, c2, rfl, -⟩ := HW2.out.l2.shape'
          have cw := cells_get HW2.out.at_ 2
          have cf := cells_free HW2.out.at_ 2
          have hob := lt_of_block HW2.out.at_
          simp at cw
          by_cases he : e2 = 35
          · subst he
            go_wp2_with fail
            go_roundw
            case rel => exact ⟨2 + 1, _, _, _, by omega, by go_num, by rw [show (decide (2 < 2 + 1)) = true from rfl, hl2.out rfl]; exact HW2.out, HB2.out⟩
            case measure => simp [intOf]
          · have hne : (e2 != 35) = true := by simp [he]
            go_wp2_with (at_builtin; refine wpList_push rfl _ _ 74 rfl 5 (.int .u8 0) 1 Try.underlying74 info8 (by decide) (by decide) M _ _ (.int .u8 e2) HW2.out.l2 HSZ2.out rfl (HLEN.out 2) rfl _ rfl rfl ?_; intro v5 w5 hp5; obtain ⟨a5, n5, cp5, rfl, -⟩ := hp5.lst.shape'; have o5 := HW2.out.at' HW2.out.l2 hp5; have q5 := (cells_get o5 2); have z5 := cells_free o5 2; have hl5 := (lt_of_block o5); have HW5 := Lib.hid (HW2.out.push2 hp5); have HB5 := Lib.hid ((HB2.out.grown hp5.grow HB2.out.size (fun q hq => by rw [← HMM.out]; exact HW2.out.l2.ge hq)).setCell (p := ⟨M, 2, none⟩) (by rw [HMM.out]; exact Nat.le_refl _) (.slice a5 n5 cp5)); simp at q5; clear hp5 o5)
            go_roundw
            case rel => exact ⟨2 + 1, _, _, _, by omega, by go_num, by rw [show (decide (2 < 2 + 1)) = true from rfl, hn2.out he]; exact HW5.out, HB5.out⟩
            case measure => simp [intOf]
        · go_wp2_with fail
          go_roundw
          case rel => exact ⟨k + 1, _, _, _, hlt, by go_num, by rw [← upto_next, ← upto_next, ← upto_next]; exact HW2.out, HB2.out⟩
          case measure => simp [intOf]; omega
    · obtain rfl : k = m := by omega
      have HUP := Lib.hid (show ∀ t, t < n → upto cs k false n t = wd (cs.map Int.ofNat) t from fun t ht => by
        unfold upto
        rw [if_pos ht, if_neg (by decide), List.take_of_length_le (by rw [List.length_map, HM.out]; exact Nat.le_refl _)])
      have hmk := run_make_row' (P := Try.prog) 27 9 (.string ⟨#[]⟩) 16 Try.underlying27 Strs.info9 rfl .i64 .i64 n (by omega) (by omega)
      obtain ⟨N, hN⟩ : ∃ N, N = wr.heap.size := ⟨_, rfl⟩
      have HNM := Lib.hid (show M ≠ N by have := lt_of_block HW.out.at_; omega)
      have HNB := Lib.hid (show w.heap.size ≤ N by have := hbel.size; omega)
      have HR1 := Lib.hid (show (wr.alloc (.cells (madeCells #[Value.string ⟨#[]⟩] n) 9)).rowIs N 9 n (fun u => .string (if u < 0 then strOfNums (wd (cs.map Int.ofNat) u) else ⟨#[]⟩)) by
        rw [hN]; exact (World.rowIs_made _ _ _ _).congr fun i hi => by rw [if_neg (Nat.not_lt_zero i)])
      have HW1 := Lib.hid (HW.out.below (w' := wr.alloc (.cells (madeCells #[Value.string ⟨#[]⟩] n) 9)) ((Below.refl _ _).alloc (Nat.le_refl _) _))
      have HB1 := Lib.hid (HB.out.alloc hbel.size (.cells (madeCells #[Value.string ⟨#[]⟩] n) 9))
      clear hca hc haa hbel
      have HNN := Lib.hid hN
      go_wp2_with fail
      rw [← hN]
      clear hN
      go_loopw [11, 41] (fun _ t wr => ∃ u : Nat, u ≤ n ∧ t = .int .i64 u ∧ wr.rowIs N 9 n (fun i => .string (if i < u then strOfNums (wd (cs.map Int.ofNat) i) else ⟨#[]⟩)) ∧ Below w.heap.size w wr ∧ Wr wr M M v0 v1 v2 (upto cs k false n 0) (upto cs k false n 1) (upto cs k false n 2)) (fun _ t _ => n - (intOf t).toNat)
      case atStart => exact ⟨0, Nat.zero_le _, rfl, HR1.out, HB1.out, HW1.out⟩
      case round =>
        obtain ⟨u, hu, rfl, hrow, hbel, hwr⟩ := hrel
        have HR2 := Lib.hid hrow
        have HB2 := Lib.hid hbel
        have HW2 := Lib.hid hwr
        clear hbel hwr HR1 HB1 HW1 HW HB
        by_cases hlu : u < n
        · have h3 : u = 0 ∨ u = 1 ∨ u = 2 := by omega
          rcases h3 with rfl | rfl | rfl
          · obtain ⟨a0, n0, c0, rfl, -⟩ := HW2.out.l0.shape'
            have cv := conv HW2.out.l0
            have cw := cells_get HW2.out.at_ 0
            have hob := lt_of_block HW2.out.at_
            have cN := hrow.cell hlu
            have fN := hrow.frozen 0
            have hNl := hrow.lt
            simp at cw
            clear hrow
            go_wp2_with fail
            go_roundw
            case rel =>
              refine ⟨0 + 1, hlu, by go_num, (World.rowIs.set HR2.out 0 _).congr fun j hj => ?_, HB2.out.setCell HNB.out _, ?_⟩
              · by_cases e : j = 0
                · subst e; rw [if_pos rfl, if_pos (Nat.lt_succ_self _), ← HUP.out 0 hlu]
                · have h1 : (j < 0 + 1) = (j < 0) := by apply propext; constructor <;> intro h <;> omega
                  simp only [if_neg e, h1]
              · obtain ⟨cs', hcs, -⟩ := HR2.out
                exact HW2.out.setOther (a := ⟨N, 0, none⟩) HNM.out hcs (by decide) _
            case measure => simp [intOf]; omega
          · obtain ⟨a1, n1, c1, rfl, -⟩ := HW2.out.l1.shape'
            have cv := conv HW2.out.l1
            have cw := cells_get HW2.out.at_ 1
            have hob := lt_of_block HW2.out.at_
            have cN := hrow.cell hlu
            have fN := hrow.frozen 1
            have hNl := hrow.lt
            simp at cw
            clear hrow
            go_wp2_with fail
            go_roundw
            case rel =>
              refine ⟨1 + 1, hlu, by go_num, (World.rowIs.set HR2.out 1 _).congr fun j hj => ?_, HB2.out.setCell HNB.out _, ?_⟩
              · by_cases e : j = 1
                · subst e; rw [if_pos rfl, if_pos (Nat.lt_succ_self _), ← HUP.out 1 hlu]
                · have h1 : (j < 1 + 1) = (j < 1) := by apply propext; constructor <;> intro h <;> omega
                  simp only [if_neg e, h1]
              · obtain ⟨cs', hcs, -⟩ := HR2.out
                exact HW2.out.setOther (a := ⟨N, 1, none⟩) HNM.out hcs (by decide) _
            case measure => simp [intOf]; omega
          · obtain ⟨a2, n2, c2, rfl, -⟩ := HW2.out.l2.shape'
            have cv := conv HW2.out.l2
            have cw := cells_get HW2.out.at_ 2
            have hob := lt_of_block HW2.out.at_
            have cN := hrow.cell hlu
            have fN := hrow.frozen 2
            have hNl := hrow.lt
            simp at cw
            clear hrow
            go_wp2_with fail
            go_roundw
            case rel =>
              refine ⟨2 + 1, hlu, by go_num, (World.rowIs.set HR2.out 2 _).congr fun j hj => ?_, HB2.out.setCell HNB.out _, ?_⟩
              · by_cases e : j = 2
                · subst e; rw [if_pos rfl, if_pos (Nat.lt_succ_self _), ← HUP.out 2 hlu]
                · have h1 : (j < 2 + 1) = (j < 2) := by apply propext; constructor <;> intro h <;> omega
                  simp only [if_neg e, h1]
              · obtain ⟨cs', hcs, -⟩ := HR2.out
                exact HW2.out.setOther (a := ⟨N, 2, none⟩) HNM.out hcs (by decide) _
            case measure => simp [intOf]; omega
        · obtain rfl : u = n := by omega
          clear hrow
          go_wp2_with fail
          go_ret
          exact ⟨N, HNB.out, rfl, HR2.out.congr fun i hi => by rw [if_pos hi], HB2.out⟩
end Go.Proofs.Ytjplmmokbkkclaa.ImplSpell
/- What the program answers that is asked for the first list that two relations do not share.
   Conditions: the relations are read as XMem's text says. -/
namespace Go.Proofs.Ytjplmmokbkkclaa.UnlikeI
set_option linter.unusedVariables false
set_option linter.unusedSimpArgs false
set_option linter.ambiguousOpen false
set_option maxRecDepth 100000
open Go.RowKit Mem Copy Rel Valid Heap Columns Bld ToL TidyMath TidyClass TidyAuto TidyRight SpecFiner SpecRight PairMath First FirstTidy FirstI FirstW FirstK FirstS Alike EqI EmptyK TakenRight Strs ColMath TupMath SpecTuple SpecWords MarkRow Found

noncomputable def unlikeC (r s : R) : Int := if alikeC r s = 0 then foundC (firstPP ne2 (toL r) (toL s)) else alikeC r s
noncomputable def unlikeL (r s : R) : List ByteArray := if alikeC r s = 0 then foundL (toL r).k (firstPP ne2 (toL r) (toL s)) else []

set_option maxHeartbeats 8000000 in
theorem unlikeI (v u : Value) (r s : R) (w : World) (B : Nat) (h : RelAt w B v r) (h' : RelAt w B u s) (hB : B ≤ w.heap.size) :
    Calls Try.prog 11 #[v, u] w fun e w' => ∃ x, e = .returned (.tuple #[x, .int .i64 (unlikeC r s)]) ∧ FreshS w.heap.size w' x (unlikeL r s) ∧ Below w.heap.size w w' := by
  have HAP := Lib.hid (fun (h0 : alikeC r s = 0) W (hb : Below w.heap.size w W) => show Calls Try.prog 34 #[v, u] W (Ans ne2 (toL r) (toL s) W) from by
    obtain ⟨h1, h2, h3⟩ := alike_of h0
    have e1 := okL' h1
    have e2 := okL' h2
    exact firstApart (toL r) (toL s) e1.1.2 e2.1.2 (by show r.tapes.toNat = s.tapes.toNat; rw [h3]) e1.2 e2.2 v u W W.heap.size (by rw [e1.1.1]; exact (h.below hb hB).mono (Nat.le_trans hB hb.size)) (by rw [e2.1.1]; exact (h'.below hb hB).mono (Nat.le_trans hB hb.size)) (Nat.le_refl _))
  unfold Ans at HAP
  have HV0 := Lib.hid (show alikeC r s ≠ 0 → unlikeC r s = alikeC r s ∧ unlikeL r s = [] from fun h0 => by unfold unlikeC unlikeL; rw [if_neg h0, if_neg h0]; exact ⟨rfl, rfl⟩)
  have HV9 := Lib.hid (show alikeC r s = 0 → unlikeC r s = foundC (firstPP ne2 (toL r) (toL s)) ∧ unlikeL r s = foundL (toL r).k (firstPP ne2 (toL r) (toL s)) from fun h0 => by unfold unlikeC unlikeL; rw [if_pos h0, if_pos h0]; exact ⟨rfl, rfl⟩)
  have HKN := Lib.hid (fun (h0 : okB r = true) => r_k h0)
  obtain ⟨V, hV⟩ : ∃ x, x = unlikeC r s := ⟨_, rfl⟩
  obtain ⟨VL, hVL⟩ : ∃ x, x = unlikeL r s := ⟨_, rfl⟩
  obtain ⟨AP, hAP⟩ : ∃ x, x = firstPP ne2 (toL r) (toL s) := ⟨_, rfl⟩
  obtain ⟨kk, hkq⟩ : ∃ x, x = (toL r).k := ⟨_, rfl⟩
  rw [← hV, ← hVL] at HV0 HV9
  rw [← hAP] at HAP HV9
  rw [← hkq] at HAP HV9 HKN
  rw [← hV, ← hVL]
  clear hV hVL hAP hkq
  have HV1 := Lib.hid (fun W (hb : Below w.heap.size w W) => ValidImpl.implValid v r W B (h.below hb hB) (Nat.le_trans hB hb.size))
  have HV2 := Lib.hid (fun W (hb : Below w.heap.size w W) => ValidImpl.implValid u s W B (h'.below hb hB) (Nat.le_trans hB hb.size))
  have HE1 := Lib.hid (show okB r = false → alikeC r s = 1 from fun h => by simp [alikeC, h])
  have HE2 := Lib.hid (show okB r = true → okB s = false → alikeC r s = 1 from fun h h2 => by simp [alikeC, h, h2])
  have HE3 := Lib.hid (show okB r = true → okB s = true → r.tapes ≠ s.tapes → alikeC r s = 2 from fun h h2 h3 => by simp [alikeC, h, h2, h3])
  have HE4 := Lib.hid (show okB r = true → okB s = true → r.tapes = s.tapes → alikeC r s = 0 from fun h h2 h3 => by simp [alikeC, h, h2, h3])
  obtain ⟨C, hC⟩ : ∃ x, x = alikeC r s := ⟨_, rfl⟩
  rw [← hC] at HE1 HE2 HE3 HE4 HAP HV0 HV9
  obtain ⟨q1, hq1⟩ : ∃ x, x = okB r := ⟨_, rfl⟩
  obtain ⟨q2, hq2⟩ : ∃ x, x = okB s := ⟨_, rfl⟩
  rw [← hq1] at HV1 HE1 HE2 HE3 HE4 HKN
  rw [← hq2] at HV2 HE2 HE3 HE4
  clear hC hq1 hq2
  obtain ⟨va, vn, rfl, ha, hn⟩ := h
  obtain ⟨aa1, ba, oa, ca1, rfl, -, -, -⟩ := ha
  obtain ⟨-, ⟨ab1, bb, ob, cb1, rfl, -, -, -⟩, -⟩ := hn
  obtain ⟨va, vn, rfl, ha, hn⟩ := h'
  obtain ⟨aa2, ba, oa, ca2, rfl, -, -, -⟩ := ha
  obtain ⟨-, ⟨ab2, bb, ob, cb2, rfl, -, -, -⟩, -⟩ := hn
  obtain ⟨k1, hk⟩ : ∃ x, x = r.tapes := ⟨_, rfl⟩
  obtain ⟨st1, hst⟩ : ∃ x, x = r.start := ⟨_, rfl⟩
  obtain ⟨na1, hna⟩ : ∃ x, x = r.accept.length := ⟨_, rfl⟩
  obtain ⟨nb1, hnb⟩ : ∃ x, x = r.next.length := ⟨_, rfl⟩
  rw [← hk, ← hst, ← hna, ← hnb] at HV1 HAP
  rw [← hk] at HE3 HE4 HKN
  rw [← hk, ← hst, ← hna, ← hnb]
  clear hk hst hna hnb
  obtain ⟨k2, hk⟩ : ∃ x, x = s.tapes := ⟨_, rfl⟩
  obtain ⟨st2, hst⟩ : ∃ x, x = s.start := ⟨_, rfl⟩
  obtain ⟨na2, hna⟩ : ∃ x, x = s.accept.length := ⟨_, rfl⟩
  obtain ⟨nb2, hnb⟩ : ∃ x, x = s.next.length := ⟨_, rfl⟩
  rw [← hk, ← hst, ← hna, ← hnb] at HV2 HAP
  rw [← hk] at HE3 HE4
  rw [← hk, ← hst, ← hna, ← hnb]
  clear hk hst hna hnb
  have HC1 := Lib.hid (HV1.out ((w.alloc (.cells #[.int .i64 k1, .int .i64 st1, .slice aa1 na1 ca1, .slice ab1 nb1 cb1] 30)).alloc (.cells #[.int .i64 k2, .int .i64 st2, .slice aa2 na2 ca2, .slice ab2 nb2 cb2] 30)) (base_box (base_box (Below.refl _ w) _) _))
  clear HV1 hB
  go_enter Try.func11, Try.ntmps11
  go_wp2_with fail
  refine HC1.out.mono ?_
  rintro e w3 ⟨rfl, hb3⟩
  rw [size_alloc', size_alloc'] at hb3
  have HK3 := Lib.hid (show K2 w #[.int .i64 k1, .int .i64 st1, .slice aa1 na1 ca1, .slice ab1 nb1 cb1] #[.int .i64 k2, .int .i64 st2, .slice aa2 na2 ca2, .slice ab2 nb2 cb2] w3 from hb3)
  have HW3 := Lib.hid (K2.base HK3.out)
  have hb1 := K2.box1 HK3.out
  have hb2 := K2.box2 HK3.out
  have x0 := cells_get hb1 0
  have y0 := cells_get hb2 0
  have y1 := cells_get hb2 1
  have y2 := cells_get hb2 2
  have y3 := cells_get hb2 3
  simp at x0 y0 y1 y2 y3
  clear hb3 hb1 hb2 HC1
  cases q1 with
  | false =>
    obtain rfl := HE1.out rfl
    obtain ⟨rfl, rfl⟩ := HV0.out (by decide)
    clear HE1 HE2 HE3 HE4 HV2 HAP HV0 HV9 HKN
    go_wp2_with fail
    go_ret2
    exact ⟨_, rfl, freshS_none _ _ _ _, HW3.out⟩
  | true =>
    have HC2 := Lib.hid (HV2.out w3 HW3.out)
    clear HV2
    go_wp2_with fail
    refine HC2.out.mono ?_
    rintro e w4 ⟨rfl, hb4⟩
    have HK4 := Lib.hid (show K2 w #[.int .i64 k1, .int .i64 st1, .slice aa1 na1 ca1, .slice ab1 nb1 cb1] #[.int .i64 k2, .int .i64 st2, .slice aa2 na2 ca2, .slice ab2 nb2 cb2] w4 from Below.trans HK3.out (hb4.mono (K2.size HK3.out)))
    have HW4 := Lib.hid (K2.base HK4.out)
    clear x0 y0 y1 y2 y3
    have hb1 := K2.box1 HK4.out
    have hb2 := K2.box2 HK4.out
    have x0 := cells_get hb1 0
    have y0 := cells_get hb2 0
    simp at x0 y0
    clear hb4 hb1 hb2 HC2
    cases q2 with
    | false =>
      obtain rfl := HE2.out (by trivial) rfl
      obtain ⟨rfl, rfl⟩ := HV0.out (by decide)
      clear HE1 HE2 HE3 HE4 HAP HV0 HV9 HKN
      go_wp2_with fail
      go_ret2
      exact ⟨_, rfl, freshS_none _ _ _ _, HW4.out⟩
    | true =>
      by_cases hkk : k1 = k2
      · obtain rfl := HE4.out (by trivial) (by trivial) hkk
        have HC4 := Lib.hid (HAP.out rfl w4 HW4.out)
        have HVV := Lib.hid (HV9.out rfl)
        obtain ⟨kn, rfl, hk1, hk3, hkk'⟩ := HKN.out (by trivial)
        subst hkk'
        clear HE1 HE2 HE3 HE4 HAP HV0 HV9 HKN
        subst hkk
        have hb1 := K2.box1 HK4.out
        have hb2 := K2.box2 HK4.out
        clear x0 y0
        have x0 := cells_get hb1 0
        have x1 := cells_get hb1 1
        have x2 := cells_get hb1 2
        have x3 := cells_get hb1 3
        have y0 := cells_get hb2 0
        have y1 := cells_get hb2 1
        have y2 := cells_get hb2 2
        have y3 := cells_get hb2 3
        simp at x0 x1 x2 x3 y0 y1 y2 y3
        have hk4 := K2.size HK4.out
        clear hb1 hb2
        go_wp2_with fail
        refine HC4.out.mono ?_
        rintro e w5 hans
        clear x0 x1 x2 x3 y0 y1 y2 y3 hk4
        rcases hans with ⟨vc, c, rfl, hlow, rfl, hl5, hb5⟩ | ⟨rfl, rfl, hb5⟩
        · have HW5 := Lib.hid (HW4.out.trans (hb5.mono HW4.out.size))
          have HK5 := Lib.hid (show K2 w _ _ w5 from Below.trans HK4.out (hb5.mono (K2.size HK4.out)))
          have x0 := cells_get (K2.box1 HK5.out) 0
          simp at x0
          have hk5 := K2.size HK5.out
          obtain ⟨a5, n5, c5, rfl, hn5⟩ := hl5.shape'
          have hn5 : n5 = c.length := by have : n5 = (iv c).length := hn5; rw [this, iv_length]
          by_cases hlen : c.length ≤ 40
          · have HWO := Lib.hid (ImplSpell.wordsOf kk c _ w5 w5.heap.size hk1 hk3 (ints_of hl5 (Nat.le_refl _)) (Nat.le_refl _) (cols_small hk1 hk3 hlow).2 (by omega))
            have hvv := HVV.out
            unfold foundC foundL at hvv
            simp only at hvv
            rw [if_pos hlen, if_pos hlen] at hvv
            obtain ⟨rfl, rfl⟩ := hvv
            have hdd : decide ((40 : Int) < (n5 : Int)) = false := decide_eq_false (by rw [hn5]; omega)
            clear HVV hl5 hb5 hn5 HC4
            go_wp2_with fail
            refine HWO.out.mono ?_
            rintro e w6 ⟨N, hN, rfl, hrow, hb6⟩
            have HFR := Lib.hid (FreshS.low (freshS_row hrow) (show w.heap.size ≤ N from Nat.le_trans HW5.out.size hN))
            have HB6 := Lib.hid hb6
            clear hrow hb6 hN HWO
            go_wp2_with fail
            go_ret2
            exact ⟨_, rfl, HFR.out, HW5.out.trans (HB6.out.mono HW5.out.size)⟩
          · have hvv := HVV.out
            unfold foundC foundL at hvv
            simp only at hvv
            rw [if_neg hlen, if_neg hlen] at hvv
            obtain ⟨rfl, rfl⟩ := hvv
            have hdd : decide ((40 : Int) < (n5 : Int)) = true := decide_eq_true (by rw [hn5]; omega)
            clear HVV hl5 hb5 hn5 HC4
            go_wp2_with fail
            go_ret2
            exact ⟨_, rfl, freshS_none _ _ _ _, HW5.out⟩
        · have HW5 := Lib.hid (HW4.out.trans (hb5.mono HW4.out.size))
          obtain ⟨rfl, rfl⟩ := HVV.out
          clear HVV hb5 HC4
          go_wp2_with fail
          go_ret2
          exact ⟨_, rfl, freshS_none _ _ _ _, HW5.out⟩
      · obtain rfl := HE3.out (by trivial) (by trivial) hkk
        obtain ⟨rfl, rfl⟩ := HV0.out (by decide)
        clear HE1 HE2 HE3 HE4 HAP HV0 HV9 HKN
        go_wp2_with fail
        go_ret2
        exact ⟨_, rfl, freshS_none _ _ _ _, HW4.out⟩

end Go.Proofs.Ytjplmmokbkkclaa.UnlikeI
/- The state of a law's walk over a relation that is answered, beside what the law's arguments are: what is kept when a part of it is marked.
   Conditions: stated at each theorem. -/
namespace Go.Proofs.Ytjplmmokbkkclaa.ResKit
set_option linter.unusedVariables false
set_option linter.unusedSimpArgs false
open Go.RowKit Mem Copy Rel Valid Heap Bld MarkRow MarkBool MarkRows MarkRel MarkOf ToL TidyAuto TidyRight SpecRight SpecTidyRel LawKit

/-- What is kept by all that is laid behind block Lo. -/
def Keeps (Lo : Nat) (E : World → Prop) : Prop := ∀ W W', E W → Below Lo W W' → E W'

/-- The law's state: what its arguments are (E), the model's answer, the program's answer. -/
structure St (w : World) (Lo : Nat) (E : World → Prop) (P : Nat) (K : Int) (wa wn : Value) (A : List Bool) (N : List (List Int)) (L : Nat) (ga gn : Value) (V : Nat → Value) (Q : Nat) (fb : Nat → Value) (f : Nat → Nat → Value) (W : World) : Prop where
  base : Below w.heap.size w W
  ext : E W
  wk : WK P K wa wn A N W
  relf : RelF W L ga gn A.length fb N.length V (lenF N) f
  gb : Kept W Q (.int .i64 K) (.int .i64 0) ga gn
  out : ¬ InRel ga A.length N.length V (lenF N) Q
  hPL : P < L
  hLo : Lo ≤ P
  hwL : w.heap.size ≤ Lo
  hLQ : L ≤ Q

section
variable {w : World} {Lo : Nat} {E : World → Prop} {P : Nat} {K : Int} {wa wn : Value} {A : List Bool} {N : List (List Int)} {L : Nat} {ga gn : Value} {V : Nat → Value} {Q : Nat} {fb : Nat → Value} {f : Nat → Nat → Value} {W W' : World}
theorem St.lL (h : St w Lo E P K wa wn A N L ga gn V Q fb f W) : L ≤ W.heap.size := Nat.le_of_lt (Nat.lt_of_le_of_lt h.hLQ h.gb.lt)
theorem St.step (hE : Keeps Lo E) (h : St w Lo E P K wa wn A N L ga gn V Q fb f W) (hb : Below W.heap.size W W') : St w Lo E P K wa wn A N L ga gn V Q fb f W' :=
  ⟨base_step h.base hb, hE _ _ h.ext (hb.mono (by have := h.lL; have := h.hPL; have := h.hLo; omega)), h.wk.step hb, h.relf.below hb, h.gb.step hb, h.out, h.hPL, h.hLo, h.hwL, h.hLQ⟩
theorem St.drew (hE : Keeps Lo E) (h : St w Lo E P K wa wn A N L ga gn V Q fb f W) : St w Lo E P K wa wn A N L ga gn V Q fb f W.drew := h.step hE ((Below.refl _ _).drew)
/-- What lies between the two answers is marked. -/
theorem St.markX (hE : Keeps Lo E) {S : Nat → Prop} (h : St w Lo E P K wa wn A N L ga gn V Q fb f W) (ho : Only S W W') (hS : ∀ b, S b → P < b ∧ b < L) : St w Lo E P K wa wn A N L ga gn V Q fb f W' :=
  have hbP : Below (P + 1) W W' := ho.below (fun b hb => by have := hS b hb; omega) (by have := h.lL; have := h.hPL; omega)
  ⟨h.base.trans (ho.below (fun b hb => by have := hS b hb; have := h.hLo; have := h.hwL; omega) h.base.size), hE _ _ h.ext (hbP.mono (by have := h.hLo; omega)),
   h.wk.low hbP, relF_only h.relf ho (fun b hb => by have := hS b hb; omega), Kept.only h.gb ho (fun e => by have := hS _ e; have := h.hLQ; omega), h.out, h.hPL, h.hLo, h.hwL, h.hLQ⟩
/-- The program's answer is marked. -/
theorem St.markG (hE : Keeps Lo E) {fb' : Nat → Value} {f' : Nat → Nat → Value} (h : St w Lo E P K wa wn A N L ga gn V Q fb f W) (ho : Only (InRel ga A.length N.length V (lenF N)) W W') (hr : RelF W' L ga gn A.length fb' N.length V (lenF N) f') : St w Lo E P K wa wn A N L ga gn V Q fb' f' W' :=
  have hbP : Below (P + 1) W W' := ho.below (fun b hb => by have := inRel_ge h.relf hb; have := h.hPL; omega) (by have := h.lL; have := h.hPL; omega)
  ⟨h.base.trans (ho.below (fun b hb => by have := inRel_ge h.relf hb; have := h.hPL; have := h.hLo; have := h.hwL; omega) h.base.size), hE _ _ h.ext (hbP.mono (by have := h.hLo; omega)),
   h.wk.low hbP, hr, Kept.only h.gb ho h.out, h.out, h.hPL, h.hLo, h.hwL, h.hLQ⟩
end

/-! What is tidied of a small automaton. -/
theorem tidyAcc_len {l : L} (hl : l.Ok) : (tidyAcc l).length ≤ l.acc.length * 8 + 1 := by
  unfold tidyAcc tidAcc
  rw [List.length_map]
  have h1 := met_few (fits hl) (most (auM l))
  have h2 : most (auM l) ≤ (auM l).n := cn_le _ _
  have h3 : (auM l).n = (F l).length + 1 := rfl
  have h4 := places_len hl (l.acc.length * 8)
  have h5 : (F l).length = (places l (l.acc.length * 8)).length := rfl
  unfold tid
  omega
theorem tidyNext_len (l : L) : (tidyNext l).length = (tidyAcc l).length := by
  unfold tidyNext tidyAcc tidNext tidAcc
  rw [List.length_map, List.length_map]
theorem tidyNext_row {l : L} (hl : l.Ok) (i : Nat) : lenF (tidyNext l) i ≤ 26 := by
  unfold lenF
  have hk : wide l.k ≤ 26 := by have := wide_cases hl.k0 hl.k3; omega
  by_cases hi : i < (tidyNext l).length
  · rw [List.getD, List.getElem?_eq_getElem hi, Option.getD_some]
    have hm := List.getElem_mem hi
    obtain ⟨s, -, hs⟩ := List.mem_map.1 (show _ ∈ (tid (auM l) 0).map (tidRow (auM l) 0) from hm)
    rw [← hs]
    unfold tidRow
    rw [List.length_map]
    exact Nat.le_trans (nxM_len _ s) hk
  · rw [List.getD, List.getElem?_eq_none (by omega)]; exact Nat.zero_le _
theorem tidyL_sum {l : L} (hl : l.Ok) (h : (tidyAcc l).length ≤ 150) : 1 + (tidyAcc l).length + sumTo (lenF (tidyNext l)) (tidyNext l).length ≤ 5000 := by
  have h1 := sumTo_le (lenF (tidyNext l)) 26 (tidyNext l).length (tidyNext_row hl)
  have h2 := tidyNext_len l
  omega
theorem few_small {r : R} (hok : okB r = true) (hn : r.accept.length ≤ 18) : few r = true := by
  have h1 := okL hok
  have h2 := tidyAcc_len h1.1.2
  unfold few
  rw [hok]
  have h3 : (toL r).acc.length ≤ 18 := hn
  simp
  omega
where okL {r : R} (h : okB r = true) : (relOf (toL r) = r ∧ (toL r).Ok) ∧ (toL r).acc.length ≤ 150 := SpecTidyRel.okL h
theorem small {r : R} (hok : okB r = true) (hn : r.accept.length ≤ 18) : tidyA r = tidyAcc (toL r) ∧ tidyN r = tidyNext (toL r) ∧ tidyK r = r.tapes ∧ tidyC r = 0 := by
  have hf := few_small hok hn
  have hl : (tidyAcc (toL r)).length ≤ 150 := by
    unfold few at hf
    rw [Bool.and_eq_true] at hf
    exact of_decide_eq_true hf.2
  refine ⟨by unfold tidyA; rw [if_pos hf], by unfold tidyN; rw [if_pos hf], by unfold tidyK; rw [if_pos hf], ?_⟩
  unfold tidyC
  rw [if_pos hok, if_pos hl]
end Go.Proofs.Ytjplmmokbkkclaa.ResKit
