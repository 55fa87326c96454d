/- What the model's function for the order of words hands back.
   Conditions: stated at each theorem. -/
import Derived.Test.YtboandmffkofaaaClosedSpecs
import Derived.Test.YtboandmffkofaaaClosedImpl
namespace Go.Proofs.Ytboandmffkofaaa.OrderSpec
set_option linter.unusedVariables false
set_option linter.unusedSimpArgs false
set_option maxRecDepth 100000
open Go.RowKit Mem Copy Rel Valid Heap Bld ColMath Columns Numbers ToL TidyAuto TidyRight SpecRight SpecTidyRel ImplRight Automaton Known Sim ResKit Closed ClosedImpl
open SpecTidied ClosedRels ClosedSpecs

def four (s : Int) : List (List Int) := [[s, 0, s], [s, 1, s], [s, 3, s], [s, 4, s]]
def blk (s : Nat) : List (List Int) := [[(s : Int), 2, 3], [(s : Int), 5, 3]] ++ (if s = 0 then [] else four s)
def msTo : Nat → List (List Int)
  | 0 => [[0, 0, 0], [0, 4, 0], [0, 3, 1], [0, 1, 2], [3, 2, 3], [3, 5, 3]]
  | s + 1 => msTo s ++ blk s
theorem msTo3 : msTo 3 = mOrder := by decide
theorem msTo_len (s : Nat) (h : s ≤ 3) : (msTo s).length ≤ 100 := by
  have : s = 0 ∨ s = 1 ∨ s = 2 ∨ s = 3 := by omega
  rcases this with rfl | rfl | rfl | rfl <;> decide
def iv2 (ms : List (List Int)) : List (List Value) := ms.map fun r => r.map (Value.int .i64)
theorem iv2_len (ms : List (List Int)) : (iv2 ms).length = ms.length := by simp [iv2]
theorem iv2_append (a b : List (List Int)) : iv2 (a ++ b) = iv2 a ++ iv2 b := by simp [iv2]
theorem own_lit {W : World} {B : Nat} {items : List (Value × List Value)} (h : Own W B 2 items) (c : Array Value) (hB : B ≤ W.heap.size) (hc : c.size ≤ 1000) : Own (W.alloc (.cells c 2)) B 2 (items ++ [(.slice (some ⟨W.heap.size, 0, none⟩) c.size c.size, c.toList)]) := by
  have h1 := h.addNew (w' := W.alloc (.cells c 2)) ((Below.refl _ _).alloc (Nat.le_refl _) _) (Lst.lit W B 2 c hB hc) (fun k hk => by cases hk; exact Nat.le_refl _)
  exact Own.perm h1 (List.perm_append_singleton _ _).symm
theorem own_pushs {W W' : World} {B : Nat} {vm v' : Value} {items news : List (Value × List Value)} (ho : Own W B 2 (items ++ news)) (hn : Lst W B 61 vm (items.map Prod.fst)) (hl : Lst W' B 61 v' (items.map Prod.fst ++ news.map Prod.fst)) (hg : W.grownBy W' vm.ownBlock) : Own W' B 2 (items ++ news) ∧ Lst W' B 61 v' ((items ++ news).map Prod.fst) :=
  ⟨ho.grown hg fun k hk p hm => hn.apart (ho.lst p hm) (by decide) k hk, by rw [List.map_append]; exact hl⟩

/-- The moves that have been put together. -/
structure Mo (w : World) (W : World) (vm : Value) (items : List (Value × List Value)) (ms : List (List Int)) : Prop where
  own : Own W (w.heap.size + 1) 2 items
  lst : Lst W (w.heap.size + 1) 61 vm (items.map Prod.fst)
  eq : items.map Prod.snd = iv2 ms
  kp : Kp w W
theorem Mo.len {w W : World} {vm : Value} {items : List (Value × List Value)} {ms : List (List Int)} (h : Mo w W vm items ms) : items.length = ms.length := by
  have := congrArg List.length h.eq
  rwa [List.length_map, iv2_len] at this
theorem Mo.rows {w W : World} {vm : Value} {items : List (Value × List Value)} {ms : List (List Int)} (h : Mo w W vm items ms) : Built W (w.heap.size + 1) (.slice none 0 0) vm [] ms := ⟨Lst.nil _ _ _, items, h.own, h.lst, h.eq⟩

set_option maxHeartbeats 8000000 in
theorem start (w W1 : World) (hW1 : W1 = (((((((w.alloc (.cells #[Value.int .i64 0, .int .i64 0, .slice none 0 0, .slice none 0 0] 27)).alloc (.cells #[.int .i64 0, .int .i64 0, .int .i64 0] 2)).alloc (.cells #[.int .i64 0, .int .i64 4, .int .i64 0] 2)).alloc (.cells #[.int .i64 0, .int .i64 3, .int .i64 1] 2)).alloc (.cells #[.int .i64 0, .int .i64 1, .int .i64 2] 2)).alloc (.cells #[.int .i64 3, .int .i64 2, .int .i64 3] 2)).alloc (.cells #[.int .i64 3, .int .i64 5, .int .i64 3] 2)).alloc (.cells #[.slice (some ⟨w.heap.size + 1, 0, none⟩) 3 3, .slice (some ⟨w.heap.size + 1 + 1, 0, none⟩) 3 3, .slice (some ⟨w.heap.size + 1 + 1 + 1, 0, none⟩) 3 3, .slice (some ⟨w.heap.size + 1 + 1 + 1 + 1, 0, none⟩) 3 3, .slice (some ⟨w.heap.size + 1 + 1 + 1 + 1 + 1, 0, none⟩) 3 3, .slice (some ⟨w.heap.size + 1 + 1 + 1 + 1 + 1 + 1, 0, none⟩) 3 3] 61)) : ∃ items, Mo w W1 (.slice (some ⟨w.heap.size + 1 + 1 + 1 + 1 + 1 + 1 + 1, 0, none⟩) 6 6) items (msTo 0) := by
  obtain ⟨W0, hW0⟩ : ∃ W0, W0 = w.alloc (.cells #[Value.int .i64 0, .int .i64 0, .slice none 0 0, .slice none 0 0] 27) := ⟨_, rfl⟩
  have h0 : W0.heap.size = w.heap.size + 1 := by rw [hW0, size_alloc']
  rw [← hW0] at hW1
  have k0 : Kp w W0 := by rw [hW0]; exact Below.refl _ _
  have o0 := Own.nil W0 (w.heap.size + 1) 2
  obtain ⟨X0, hX0⟩ : ∃ X, X = W0.alloc (.cells #[.int .i64 0, .int .i64 0, .int .i64 0] 2) := ⟨_, rfl⟩
  have o1 := own_lit o0 #[.int .i64 0, .int .i64 0, .int .i64 0] (by omega) (by decide)
  rw [← hX0] at o1 hW1
  have s0 : X0.heap.size = w.heap.size + 1 + 1 := by rw [hX0, size_alloc']; omega
  have k1 : Kp w X0 := by rw [hX0]; exact Below.alloc k0 (Kp.size k0) _
  obtain ⟨X1, hX1⟩ : ∃ X, X = X0.alloc (.cells #[.int .i64 0, .int .i64 4, .int .i64 0] 2) := ⟨_, rfl⟩
  have o2 := own_lit o1 #[.int .i64 0, .int .i64 4, .int .i64 0] (by omega) (by decide)
  rw [← hX1] at o2 hW1
  have s1 : X1.heap.size = w.heap.size + 1 + 1 + 1 := by rw [hX1, size_alloc']; omega
  have k2 : Kp w X1 := by rw [hX1]; exact Below.alloc k1 (Kp.size k1) _
  obtain ⟨X2, hX2⟩ : ∃ X, X = X1.alloc (.cells #[.int .i64 0, .int .i64 3, .int .i64 1] 2) := ⟨_, rfl⟩
  have o3 := own_lit o2 #[.int .i64 0, .int .i64 3, .int .i64 1] (by omega) (by decide)
  rw [← hX2] at o3 hW1
  have s2 : X2.heap.size = w.heap.size + 1 + 1 + 1 + 1 := by rw [hX2, size_alloc']; omega
  have k3 : Kp w X2 := by rw [hX2]; exact Below.alloc k2 (Kp.size k2) _
  obtain ⟨X3, hX3⟩ : ∃ X, X = X2.alloc (.cells #[.int .i64 0, .int .i64 1, .int .i64 2] 2) := ⟨_, rfl⟩
  have o4 := own_lit o3 #[.int .i64 0, .int .i64 1, .int .i64 2] (by omega) (by decide)
  rw [← hX3] at o4 hW1
  have s3 : X3.heap.size = w.heap.size + 1 + 1 + 1 + 1 + 1 := by rw [hX3, size_alloc']; omega
  have k4 : Kp w X3 := by rw [hX3]; exact Below.alloc k3 (Kp.size k3) _
  obtain ⟨X4, hX4⟩ : ∃ X, X = X3.alloc (.cells #[.int .i64 3, .int .i64 2, .int .i64 3] 2) := ⟨_, rfl⟩
  have o5 := own_lit o4 #[.int .i64 3, .int .i64 2, .int .i64 3] (by omega) (by decide)
  rw [← hX4] at o5 hW1
  have s4 : X4.heap.size = w.heap.size + 1 + 1 + 1 + 1 + 1 + 1 := by rw [hX4, size_alloc']; omega
  have k5 : Kp w X4 := by rw [hX4]; exact Below.alloc k4 (Kp.size k4) _
  obtain ⟨X5, hX5⟩ : ∃ X, X = X4.alloc (.cells #[.int .i64 3, .int .i64 5, .int .i64 3] 2) := ⟨_, rfl⟩
  have o6 := own_lit o5 #[.int .i64 3, .int .i64 5, .int .i64 3] (by omega) (by decide)
  rw [← hX5] at o6 hW1
  have s5 : X5.heap.size = w.heap.size + 1 + 1 + 1 + 1 + 1 + 1 + 1 := by rw [hX5, size_alloc']; omega
  have k6 : Kp w X5 := by rw [hX5]; exact Below.alloc k5 (Kp.size k5) _
  have hl := Lst.lit X5 (w.heap.size + 1) 61 #[.slice (some ⟨w.heap.size + 1, 0, none⟩) 3 3, .slice (some ⟨w.heap.size + 1 + 1, 0, none⟩) 3 3, .slice (some ⟨w.heap.size + 1 + 1 + 1, 0, none⟩) 3 3, .slice (some ⟨w.heap.size + 1 + 1 + 1 + 1, 0, none⟩) 3 3, .slice (some ⟨w.heap.size + 1 + 1 + 1 + 1 + 1, 0, none⟩) 3 3, .slice (some ⟨w.heap.size + 1 + 1 + 1 + 1 + 1 + 1, 0, none⟩) 3 3] (by omega) (by simp)
  rw [← hW1, s5] at hl
  have hb : Below X5.heap.size X5 W1 := by rw [hW1]; exact (Below.refl _ _).alloc (Nat.le_refl _) _
  have k7 : Kp w W1 := Below.trans k6 (hb.mono (Kp.size k6))
  rw [s4, s3, s2, s1, s0, h0] at o6
  exact ⟨_, o6.below hb, hl, rfl, k7⟩

set_option maxHeartbeats 8000000 in
theorem specOrder (w : World) : Calls Try.prog 23 #[] w fun e w' => ∃ va vn, e = .returned (.agg #[.int .i64 2, .int .i64 0, va, vn]) ∧ Built w' w.heap.size va vn (tidyAcc sOrder) (tidyNext sOrder) ∧ Below w.heap.size w w' := by
  obtain ⟨W1, hW1⟩ : ∃ W1, W1 = (((((((w.alloc (.cells #[Value.int .i64 0, .int .i64 0, .slice none 0 0, .slice none 0 0] 27)).alloc (.cells #[.int .i64 0, .int .i64 0, .int .i64 0] 2)).alloc (.cells #[.int .i64 0, .int .i64 4, .int .i64 0] 2)).alloc (.cells #[.int .i64 0, .int .i64 3, .int .i64 1] 2)).alloc (.cells #[.int .i64 0, .int .i64 1, .int .i64 2] 2)).alloc (.cells #[.int .i64 3, .int .i64 2, .int .i64 3] 2)).alloc (.cells #[.int .i64 3, .int .i64 5, .int .i64 3] 2)).alloc (.cells #[.slice (some ⟨w.heap.size + 1, 0, none⟩) 3 3, .slice (some ⟨w.heap.size + 1 + 1, 0, none⟩) 3 3, .slice (some ⟨w.heap.size + 1 + 1 + 1, 0, none⟩) 3 3, .slice (some ⟨w.heap.size + 1 + 1 + 1 + 1, 0, none⟩) 3 3, .slice (some ⟨w.heap.size + 1 + 1 + 1 + 1 + 1, 0, none⟩) 3 3, .slice (some ⟨w.heap.size + 1 + 1 + 1 + 1 + 1 + 1, 0, none⟩) 3 3] 61) := ⟨_, rfl⟩
  have HS0 := Lib.hid (start w W1 hW1)
  have HKN := Lib.hid (fun vm W h B ha => known (.slice (some ⟨B, 0, none⟩) 4 4) vm [false, true, false, true] mOrder sOrder sOrder_ok sOrder_rel (by decide) (by decide) (by decide) (by decide) W W.heap.size ha h (Nat.le_refl _))
  go_enter Try.func23, Try.ntmps23
  go_wp2_with fail
  rw [← hW1]
  clear hW1
  go_loopw [1, 2, 3] (fun s1 s2 _ wr => ∃ (s : Nat) (a : Option Addr) (n cap : Nat) (items : List (Value × List Value)), s ≤ 3 ∧ s2 = .int .i64 s ∧ s1 = .slice a n cap ∧ Mo w wr (.slice a n cap) items (msTo s)) (fun _ s2 _ _ => 3 - (intOf s2).toNat)
  case atStart =>
    obtain ⟨items, hm⟩ := HS0.out
    exact ⟨0, _, _, _, items, by omega, rfl, rfl, hm⟩
  case round =>
    obtain ⟨s, a, n, cap, items, hs, rfl, rfl, hm⟩ := hrel
    have HM := Lib.hid hm
    clear hm HS0
    by_cases hlt : s < 3
    · obtain ⟨X, hX⟩ : ∃ X, X = wr.heap.size := ⟨_, rfl⟩
      have HSZ := Lib.hid (show w.heap.size + 1 ≤ X by rw [hX]; exact Kp.size HM.out.kp)
      have o1 := own_lit HM.out.own #[.int .i64 s, .int .i64 2, .int .i64 3] (Kp.size HM.out.kp) (by simp)
      have o2 := own_lit o1 #[.int .i64 s, .int .i64 5, .int .i64 3] (by rw [size_alloc']; have := HSZ.out; omega) (by simp)
      rw [size_alloc', ← hX] at o2
      rw [List.append_assoc] at o2
      have HO := Lib.hid (o2.alloc (.cells #[.slice (some ⟨X, 0, none⟩) 3 3, .slice (some ⟨X + 1, 0, none⟩) 3 3] 61))
      obtain ⟨W3, hW3⟩ : ∃ W3, W3 = ((wr.alloc (.cells #[.int .i64 s, .int .i64 2, .int .i64 3] 2)).alloc (.cells #[.int .i64 s, .int .i64 5, .int .i64 3] 2)).alloc (.cells #[.slice (some ⟨X, 0, none⟩) 3 3, .slice (some ⟨X + 1, 0, none⟩) 3 3] 61) := ⟨_, rfl⟩
      rw [← hW3] at HO
      have hbW : Below wr.heap.size wr W3 := by rw [hW3]; exact base_box (base_box (base_box (Below.refl _ _) _) _) _
      have HL3 := Lib.hid (HM.out.lst.below hbW)
      have HK3 := Lib.hid (show Kp w W3 from Below.trans HM.out.kp (hbW.mono (Kp.size HM.out.kp)))
      have HS3 := Lib.hid (Kp.size HK3.out)
      have hX2 : ((wr.alloc (.cells #[.int .i64 s, .int .i64 2, .int .i64 3] 2)).alloc (.cells #[.int .i64 s, .int .i64 5, .int .i64 3] 2)).heap.size = X + 1 + 1 := by rw [size_alloc', size_alloc', hX]
      have HNEW := Lib.hid (show ∀ j u, [Value.slice (some ⟨X, 0, none⟩) 3 3, Value.slice (some ⟨X + 1, 0, none⟩) 3 3][j]? = some u → W3.cell? ((⟨X + 1 + 1, 0, none⟩ : Addr).add j) = some u from fun j u hj => by
        rw [hW3, ← hX2]
        have ea : (⟨((wr.alloc (.cells #[.int .i64 s, .int .i64 2, .int .i64 3] 2)).alloc (.cells #[.int .i64 s, .int .i64 5, .int .i64 3] 2)).heap.size, 0, none⟩ : Addr).add j = ⟨((wr.alloc (.cells #[.int .i64 s, .int .i64 2, .int .i64 3] 2)).alloc (.cells #[.int .i64 s, .int .i64 5, .int .i64 3] 2)).heap.size, j, none⟩ := by
          simp [Addr.add]
          try (intro h; omega)
        rw [ea, World.cell?_alloc_mark, ← hj]
        simp)
      have HLEN := Lib.hid (show (items.map Prod.fst).length + 2 ≤ 100000000 by have h1 := HM.out.len; have h2 := msTo_len s (by omega); rw [List.length_map]; omega)
      clear o1 o2 hbW hX2
      subst hW3
      subst hX
      go_wp2_with (at_builtin; refine wpList_pushs rfl _ _ 23 rfl 61 (.slice none 0 0) 24 Try.underlying23 info54 (by decide) (by decide) (w.heap.size + 1) (.slice a n cap) _ HL3.out HS3.out [.slice (some ⟨wr.heap.size, 0, none⟩) 3 3, .slice (some ⟨wr.heap.size + 1, 0, none⟩) 3 3] (fun u hu => by simp at hu; rcases hu with rfl | rfl <;> rfl) HLEN.out rfl ⟨wr.heap.size + 1 + 1, 0, none⟩ 2 2 rfl rfl HNEW.out ?_; intro v5 w5 hl5 hg5; obtain ⟨a5, n5, cp5, rfl, -⟩ := hl5.shape'; have HP5 := Lib.hid (own_pushs HO.out HL3.out hl5 hg5); have HK5 := Lib.hid (Below.grown HK3.out hg5 HS3.out (fun q hq => HL3.out.ge hq)); clear hl5 hg5)
      have HM5 := Lib.hid (show Mo w w5 (.slice a5 n5 cp5) (items ++ [(.slice (some ⟨wr.heap.size, 0, none⟩) 3 3, [.int .i64 s, .int .i64 2, .int .i64 3]), (.slice (some ⟨wr.heap.size + 1, 0, none⟩) 3 3, [.int .i64 s, .int .i64 5, .int .i64 3])]) (msTo s ++ [[(s : Int), 2, 3], [(s : Int), 5, 3]] ++ (four s).take 0) from
        ⟨HP5.out.1, HP5.out.2, by rw [List.map_append, HM.out.eq, iv2_append, iv2_append, List.take_zero]; show _ = _ ++ _ ++ []; rw [List.append_nil]; rfl, HK5.out⟩)
      clear HP5 HK5 HO HL3 HK3 HS3 HNEW HLEN HM
      obtain ⟨itn, hitn⟩ : ∃ itn, itn = items ++ [(Value.slice (some ⟨wr.heap.size, 0, none⟩) 3 3, [Value.int .i64 s, .int .i64 2, .int .i64 3]), (Value.slice (some ⟨wr.heap.size + 1, 0, none⟩) 3 3, [Value.int .i64 s, .int .i64 5, .int .i64 3])] := ⟨_, rfl⟩
      rw [← hitn] at HM5
      clear hitn HSZ
      go_loopw [1, 3] (fun s1 s3 wr' => ∃ (k : Nat) (a : Option Addr) (n cap : Nat) (items : List (Value × List Value)), k ≤ 4 ∧ s3 = .int .i64 k ∧ s1 = .slice a n cap ∧ (s = 0 → k = 0) ∧ Mo w wr' (.slice a n cap) items (msTo s ++ [[(s : Int), 2, 3], [(s : Int), 5, 3]] ++ (four s).take k)) (fun _ s3 _ => 4 - (intOf s3).toNat)
      case atStart => exact ⟨0, _, _, _, _, by omega, rfl, rfl, fun _ => rfl, HM5.out⟩
      case round =>
        obtain ⟨k, a, n, cap, items, hk, rfl, rfl, hk0, hm⟩ := hrel
        have HM2 := Lib.hid hm
        have HSZ := Lib.hid (Kp.size hm.kp)
        have HLEN := Lib.hid (show (items.map Prod.fst).length + 1 ≤ 100000000 by have h1 := hm.len; have h2 := msTo_len s (by omega); rw [List.length_append, List.length_append, List.length_take] at h1; simp at h1; rw [List.length_map]; omega)
        clear hm HM5
        by_cases h0 : s = 0
        · have hk0' := hk0 h0
          subst h0
          subst hk0'
          clear hk0
          go_wp2_with fail
          go_roundw
          case rel => exact ⟨1, _, _, _, items, by omega, by go_num, rfl, by have := HM2.out; rwa [show msTo 0 ++ [[((0 : Nat) : Int), 2, 3], [((0 : Nat) : Int), 5, 3]] ++ (four ((0 : Nat) : Int)).take 0 = msTo 1 from rfl] at this⟩
          case measure => simp [intOf]
        · have hp : (0 : Int) < (s : Int) := by omega
          clear hk0
          by_cases h4 : k = 4
          · subst h4
            go_wp2_with fail
            go_roundw
            case rel =>
              refine ⟨s + 1, _, _, _, items, hlt, by go_num, rfl, ?_⟩
              have := HM2.out
              rwa [show msTo s ++ [[(s : Int), 2, 3], [(s : Int), 5, 3]] ++ (four s).take 4 = msTo (s + 1) from by
                show _ = msTo s ++ blk s
                unfold blk
                rw [if_neg h0, List.append_assoc]
                rfl] at this
            case measure => simp [intOf]; omega
          · have : k = 0 ∨ k = 1 ∨ k = 2 ∨ k = 3 := by omega
            rcases this with rfl | rfl | rfl | rfl
            · have o1 := own_lit (HM2.out.own.alloc (.cells #[.int .i64 0, .int .i64 1, .int .i64 3, .int .i64 4] 2)) #[.int .i64 s, .int .i64 0, .int .i64 s] (by rw [size_alloc']; have := HSZ.out; omega) (by simp)
              rw [size_alloc'] at o1
              have HO := Lib.hid (o1.alloc (.cells #[.slice (some ⟨wr.heap.size + 1, 0, none⟩) 3 3] 61))
              have hbW : Below wr.heap.size wr (((wr.alloc (.cells #[.int .i64 0, .int .i64 1, .int .i64 3, .int .i64 4] 2)).alloc (.cells #[.int .i64 s, .int .i64 0, .int .i64 s] 2)).alloc (.cells #[.slice (some ⟨wr.heap.size + 1, 0, none⟩) 3 3] 61)) := base_box (base_box (base_box (Below.refl _ _) _) _) _
              have HL3 := Lib.hid (HM2.out.lst.below hbW)
              have HK3 := Lib.hid (show Kp w (((wr.alloc (.cells #[.int .i64 0, .int .i64 1, .int .i64 3, .int .i64 4] 2)).alloc (.cells #[.int .i64 s, .int .i64 0, .int .i64 s] 2)).alloc (.cells #[.slice (some ⟨wr.heap.size + 1, 0, none⟩) 3 3] 61)) from Below.trans HM2.out.kp (hbW.mono (Kp.size HM2.out.kp)))
              have HS3 := Lib.hid (Kp.size HK3.out)
              have hX2 : ((wr.alloc (.cells #[.int .i64 0, .int .i64 1, .int .i64 3, .int .i64 4] 2)).alloc (.cells #[.int .i64 s, .int .i64 0, .int .i64 s] 2)).heap.size = wr.heap.size + 1 + 1 := by rw [size_alloc', size_alloc']
              have HNEW := Lib.hid (show ∀ j u, [Value.slice (some ⟨wr.heap.size + 1, 0, none⟩) 3 3][j]? = some u → (((wr.alloc (.cells #[.int .i64 0, .int .i64 1, .int .i64 3, .int .i64 4] 2)).alloc (.cells #[.int .i64 s, .int .i64 0, .int .i64 s] 2)).alloc (.cells #[.slice (some ⟨wr.heap.size + 1, 0, none⟩) 3 3] 61)).cell? ((⟨wr.heap.size + 1 + 1, 0, none⟩ : Addr).add j) = some u from fun j u hj => by
                rw [← hX2]
                have ea : ∀ b : Nat, (⟨b, 0, none⟩ : Addr).add j = ⟨b, j, none⟩ := fun b => by
                  simp [Addr.add]
                  try (intro h; omega)
                rw [ea, World.cell?_alloc_mark, ← hj]
                simp)
              clear o1 hbW hX2
              go_wp2_with (at_builtin; refine wpList_pushs rfl _ _ 23 rfl 61 (.slice none 0 0) 24 Try.underlying23 info54 (by decide) (by decide) (w.heap.size + 1) (.slice a n cap) _ HL3.out HS3.out [.slice (some ⟨wr.heap.size + 1, 0, none⟩) 3 3] (fun u hu => by simp at hu; subst hu; rfl) HLEN.out rfl ⟨wr.heap.size + 1 + 1, 0, none⟩ 1 1 rfl rfl HNEW.out ?_; intro v5 w5 hl5 hg5; obtain ⟨a5, n5, cp5, rfl, -⟩ := hl5.shape'; have HP5 := Lib.hid (own_pushs HO.out HL3.out hl5 hg5); have HK5 := Lib.hid (Below.grown HK3.out hg5 HS3.out (fun q hq => HL3.out.ge hq)); clear hl5 hg5)
              go_roundw
              case rel =>
                refine ⟨1, _, _, _, _, by omega, by go_num, rfl, fun h => absurd h h0, HP5.out.1, HP5.out.2, ?_, HK5.out⟩
                rw [List.map_append, HM2.out.eq]
                unfold iv2 four
                simp
              case measure => simp [intOf]
            · have o1 := own_lit (HM2.out.own.alloc (.cells #[.int .i64 0, .int .i64 1, .int .i64 3, .int .i64 4] 2)) #[.int .i64 s, .int .i64 1, .int .i64 s] (by rw [size_alloc']; have := HSZ.out; omega) (by simp)
              rw [size_alloc'] at o1
              have HO := Lib.hid (o1.alloc (.cells #[.slice (some ⟨wr.heap.size + 1, 0, none⟩) 3 3] 61))
              have hbW : Below wr.heap.size wr (((wr.alloc (.cells #[.int .i64 0, .int .i64 1, .int .i64 3, .int .i64 4] 2)).alloc (.cells #[.int .i64 s, .int .i64 1, .int .i64 s] 2)).alloc (.cells #[.slice (some ⟨wr.heap.size + 1, 0, none⟩) 3 3] 61)) := base_box (base_box (base_box (Below.refl _ _) _) _) _
              have HL3 := Lib.hid (HM2.out.lst.below hbW)
              have HK3 := Lib.hid (show Kp w (((wr.alloc (.cells #[.int .i64 0, .int .i64 1, .int .i64 3, .int .i64 4] 2)).alloc (.cells #[.int .i64 s, .int .i64 1, .int .i64 s] 2)).alloc (.cells #[.slice (some ⟨wr.heap.size + 1, 0, none⟩) 3 3] 61)) from Below.trans HM2.out.kp (hbW.mono (Kp.size HM2.out.kp)))
              have HS3 := Lib.hid (Kp.size HK3.out)
              have hX2 : ((wr.alloc (.cells #[.int .i64 0, .int .i64 1, .int .i64 3, .int .i64 4] 2)).alloc (.cells #[.int .i64 s, .int .i64 1, .int .i64 s] 2)).heap.size = wr.heap.size + 1 + 1 := by rw [size_alloc', size_alloc']
              have HNEW := Lib.hid (show ∀ j u, [Value.slice (some ⟨wr.heap.size + 1, 0, none⟩) 3 3][j]? = some u → (((wr.alloc (.cells #[.int .i64 0, .int .i64 1, .int .i64 3, .int .i64 4] 2)).alloc (.cells #[.int .i64 s, .int .i64 1, .int .i64 s] 2)).alloc (.cells #[.slice (some ⟨wr.heap.size + 1, 0, none⟩) 3 3] 61)).cell? ((⟨wr.heap.size + 1 + 1, 0, none⟩ : Addr).add j) = some u from fun j u hj => by
                rw [← hX2]
                have ea : ∀ b : Nat, (⟨b, 0, none⟩ : Addr).add j = ⟨b, j, none⟩ := fun b => by
                  simp [Addr.add]
                  try (intro h; omega)
                rw [ea, World.cell?_alloc_mark, ← hj]
                simp)
              clear o1 hbW hX2
              go_wp2_with (at_builtin; refine wpList_pushs rfl _ _ 23 rfl 61 (.slice none 0 0) 24 Try.underlying23 info54 (by decide) (by decide) (w.heap.size + 1) (.slice a n cap) _ HL3.out HS3.out [.slice (some ⟨wr.heap.size + 1, 0, none⟩) 3 3] (fun u hu => by simp at hu; subst hu; rfl) HLEN.out rfl ⟨wr.heap.size + 1 + 1, 0, none⟩ 1 1 rfl rfl HNEW.out ?_; intro v5 w5 hl5 hg5; obtain ⟨a5, n5, cp5, rfl, -⟩ := hl5.shape'; have HP5 := Lib.hid (own_pushs HO.out HL3.out hl5 hg5); have HK5 := Lib.hid (Below.grown HK3.out hg5 HS3.out (fun q hq => HL3.out.ge hq)); clear hl5 hg5)
              go_roundw
              case rel =>
                refine ⟨2, _, _, _, _, by omega, by go_num, rfl, fun h => absurd h h0, HP5.out.1, HP5.out.2, ?_, HK5.out⟩
                rw [List.map_append, HM2.out.eq]
                unfold iv2 four
                simp
              case measure => simp [intOf]
            · have o1 := own_lit (HM2.out.own.alloc (.cells #[.int .i64 0, .int .i64 1, .int .i64 3, .int .i64 4] 2)) #[.int .i64 s, .int .i64 3, .int .i64 s] (by rw [size_alloc']; have := HSZ.out; omega) (by simp)
              rw [size_alloc'] at o1
              have HO := Lib.hid (o1.alloc (.cells #[.slice (some ⟨wr.heap.size + 1, 0, none⟩) 3 3] 61))
              have hbW : Below wr.heap.size wr (((wr.alloc (.cells #[.int .i64 0, .int .i64 1, .int .i64 3, .int .i64 4] 2)).alloc (.cells #[.int .i64 s, .int .i64 3, .int .i64 s] 2)).alloc (.cells #[.slice (some ⟨wr.heap.size + 1, 0, none⟩) 3 3] 61)) := base_box (base_box (base_box (Below.refl _ _) _) _) _
              have HL3 := Lib.hid (HM2.out.lst.below hbW)
              have HK3 := Lib.hid (show Kp w (((wr.alloc (.cells #[.int .i64 0, .int .i64 1, .int .i64 3, .int .i64 4] 2)).alloc (.cells #[.int .i64 s, .int .i64 3, .int .i64 s] 2)).alloc (.cells #[.slice (some ⟨wr.heap.size + 1, 0, none⟩) 3 3] 61)) from Below.trans HM2.out.kp (hbW.mono (Kp.size HM2.out.kp)))
              have HS3 := Lib.hid (Kp.size HK3.out)
              have hX2 : ((wr.alloc (.cells #[.int .i64 0, .int .i64 1, .int .i64 3, .int .i64 4] 2)).alloc (.cells #[.int .i64 s, .int .i64 3, .int .i64 s] 2)).heap.size = wr.heap.size + 1 + 1 := by rw [size_alloc', size_alloc']
              have HNEW := Lib.hid (show ∀ j u, [Value.slice (some ⟨wr.heap.size + 1, 0, none⟩) 3 3][j]? = some u → (((wr.alloc (.cells #[.int .i64 0, .int .i64 1, .int .i64 3, .int .i64 4] 2)).alloc (.cells #[.int .i64 s, .int .i64 3, .int .i64 s] 2)).alloc (.cells #[.slice (some ⟨wr.heap.size + 1, 0, none⟩) 3 3] 61)).cell? ((⟨wr.heap.size + 1 + 1, 0, none⟩ : Addr).add j) = some u from fun j u hj => by
                rw [← hX2]
                have ea : ∀ b : Nat, (⟨b, 0, none⟩ : Addr).add j = ⟨b, j, none⟩ := fun b => by
                  simp [Addr.add]
                  try (intro h; omega)
                rw [ea, World.cell?_alloc_mark, ← hj]
                simp)
              clear o1 hbW hX2
              go_wp2_with (at_builtin; refine wpList_pushs rfl _ _ 23 rfl 61 (.slice none 0 0) 24 Try.underlying23 info54 (by decide) (by decide) (w.heap.size + 1) (.slice a n cap) _ HL3.out HS3.out [.slice (some ⟨wr.heap.size + 1, 0, none⟩) 3 3] (fun u hu => by simp at hu; subst hu; rfl) HLEN.out rfl ⟨wr.heap.size + 1 + 1, 0, none⟩ 1 1 rfl rfl HNEW.out ?_; intro v5 w5 hl5 hg5; obtain ⟨a5, n5, cp5, rfl, -⟩ := hl5.shape'; have HP5 := Lib.hid (own_pushs HO.out HL3.out hl5 hg5); have HK5 := Lib.hid (Below.grown HK3.out hg5 HS3.out (fun q hq => HL3.out.ge hq)); clear hl5 hg5)
              go_roundw
              case rel =>
                refine ⟨3, _, _, _, _, by omega, by go_num, rfl, fun h => absurd h h0, HP5.out.1, HP5.out.2, ?_, HK5.out⟩
                rw [List.map_append, HM2.out.eq]
                unfold iv2 four
                simp
              case measure => simp [intOf]
            · have o1 := own_lit (HM2.out.own.alloc (.cells #[.int .i64 0, .int .i64 1, .int .i64 3, .int .i64 4] 2)) #[.int .i64 s, .int .i64 4, .int .i64 s] (by rw [size_alloc']; have := HSZ.out; omega) (by simp)
              rw [size_alloc'] at o1
              have HO := Lib.hid (o1.alloc (.cells #[.slice (some ⟨wr.heap.size + 1, 0, none⟩) 3 3] 61))
              have hbW : Below wr.heap.size wr (((wr.alloc (.cells #[.int .i64 0, .int .i64 1, .int .i64 3, .int .i64 4] 2)).alloc (.cells #[.int .i64 s, .int .i64 4, .int .i64 s] 2)).alloc (.cells #[.slice (some ⟨wr.heap.size + 1, 0, none⟩) 3 3] 61)) := base_box (base_box (base_box (Below.refl _ _) _) _) _
              have HL3 := Lib.hid (HM2.out.lst.below hbW)
              have HK3 := Lib.hid (show Kp w (((wr.alloc (.cells #[.int .i64 0, .int .i64 1, .int .i64 3, .int .i64 4] 2)).alloc (.cells #[.int .i64 s, .int .i64 4, .int .i64 s] 2)).alloc (.cells #[.slice (some ⟨wr.heap.size + 1, 0, none⟩) 3 3] 61)) from Below.trans HM2.out.kp (hbW.mono (Kp.size HM2.out.kp)))
              have HS3 := Lib.hid (Kp.size HK3.out)
              have hX2 : ((wr.alloc (.cells #[.int .i64 0, .int .i64 1, .int .i64 3, .int .i64 4] 2)).alloc (.cells #[.int .i64 s, .int .i64 4, .int .i64 s] 2)).heap.size = wr.heap.size + 1 + 1 := by rw [size_alloc', size_alloc']
              have HNEW := Lib.hid (show ∀ j u, [Value.slice (some ⟨wr.heap.size + 1, 0, none⟩) 3 3][j]? = some u → (((wr.alloc (.cells #[.int .i64 0, .int .i64 1, .int .i64 3, .int .i64 4] 2)).alloc (.cells #[.int .i64 s, .int .i64 4, .int .i64 s] 2)).alloc (.cells #[.slice (some ⟨wr.heap.size + 1, 0, none⟩) 3 3] 61)).cell? ((⟨wr.heap.size + 1 + 1, 0, none⟩ : Addr).add j) = some u from fun j u hj => by
                rw [← hX2]
                have ea : ∀ b : Nat, (⟨b, 0, none⟩ : Addr).add j = ⟨b, j, none⟩ := fun b => by
                  simp [Addr.add]
                  try (intro h; omega)
                rw [ea, World.cell?_alloc_mark, ← hj]
                simp)
              clear o1 hbW hX2
              go_wp2_with (at_builtin; refine wpList_pushs rfl _ _ 23 rfl 61 (.slice none 0 0) 24 Try.underlying23 info54 (by decide) (by decide) (w.heap.size + 1) (.slice a n cap) _ HL3.out HS3.out [.slice (some ⟨wr.heap.size + 1, 0, none⟩) 3 3] (fun u hu => by simp at hu; subst hu; rfl) HLEN.out rfl ⟨wr.heap.size + 1 + 1, 0, none⟩ 1 1 rfl rfl HNEW.out ?_; intro v5 w5 hl5 hg5; obtain ⟨a5, n5, cp5, rfl, -⟩ := hl5.shape'; have HP5 := Lib.hid (own_pushs HO.out HL3.out hl5 hg5); have HK5 := Lib.hid (Below.grown HK3.out hg5 HS3.out (fun q hq => HL3.out.ge hq)); clear hl5 hg5)
              go_roundw
              case rel =>
                refine ⟨4, _, _, _, _, by omega, by go_num, rfl, fun h => absurd h h0, HP5.out.1, HP5.out.2, ?_, HK5.out⟩
                rw [List.map_append, HM2.out.eq]
                unfold iv2 four
                simp
              case measure => simp [intOf]
    · obtain rfl : s = 3 := by omega
      obtain ⟨W4, hW4⟩ : ∃ W4, W4 = wr.alloc (.cells #[.bool false, .bool true, .bool false, .bool true] 4) := ⟨_, rfl⟩
      have hbW : Below wr.heap.size wr W4 := by rw [hW4]; exact base_box (Below.refl _ _) _
      have HK4 := Lib.hid (show Kp w W4 from Below.trans HM.out.kp (hbW.mono (Kp.size HM.out.kp)))
      have HR4 := Lib.hid (show Res0 w w.heap.size W4 from ⟨Kp.base HK4.out, Kp.res HK4.out, Nat.le_refl _⟩)
      have ha : Bools W4 W4.heap.size (.slice (some ⟨wr.heap.size, 0, none⟩) 4 4) [false, true, false, true] := by
        rw [hW4]
        exact lst_bools (xs := [false, true, false, true]) (Lst.lit wr (w.heap.size + 1) 4 #[.bool false, .bool true, .bool false, .bool true] (Kp.size HM.out.kp) (by decide)) _ (Nat.le_refl _)
      have hr : IntRows W4 W4.heap.size (.slice a n cap) mOrder := by
        have := built_rows (HM.out.rows.below hbW) W4.heap.size (Nat.le_refl _)
        rwa [msTo3] at this
      have HKK := Lib.hid (HKN.out (.slice a n cap) W4 hr wr.heap.size ha)
      clear hbW ha hr
      go_wp2_with fail
      rw [← hW4]
      clear hW4
      refine HKK.out.mono ?_
      rintro e w7 ⟨va3, vn3, rfl, hbu, hb⟩
      have HR7 := Lib.hid (HR4.out.step hb)
      have HB7 := Lib.hid (show Built w7 (w.heap.size + 1) va3 vn3 (tidyAcc sOrder) (tidyNext sOrder) from hbu.mono HR4.out.lt)
      clear hbu hb HKK
      have hres := HR7.out.res
      obtain ⟨a7, n7, c7, rfl, -⟩ := HB7.out.acc.shape'
      obtain ⟨items7, -, hnx7, -⟩ := HB7.out.rows
      obtain ⟨b7, m7, d7, rfl, -⟩ := hnx7.shape'
      have r0 := cells_get hres 0
      have r1 := cells_get hres 1
      have r2 := cells_get hres 2
      have r3 := cells_get hres 3
      have f0 := cells_free hres 0
      have f1 := cells_free hres 1
      have f2 := cells_free hres 2
      have f3 := cells_free hres 3
      have hlS := HR7.out.lt
      have p0 := cells_set hres 0 (.int .i64 2)
      have p1 := cells_set p0 1 (.int .i64 0)
      have p2 := cells_set p1 2 (.slice a7 n7 c7)
      have p3 := cells_set p2 3 (.slice b7 m7 d7)
      simp at r0 r1 r2 r3 p3
      have g0 := cells_get p3 0
      have g1 := cells_get p3 1
      have g2 := cells_get p3 2
      have g3 := cells_get p3 3
      simp at g0 g1 g2 g3
      have HG := Lib.hid (And.intro g0 (And.intro g1 (And.intro g2 g3)))
      clear p0 p1 p2 p3 g0 g1 g2 g3 hres hnx7
      go_wp2_with fail
      obtain ⟨g0, g1, g2, g3⟩ := HG.out
      refine bodyPost_ret (v := .agg #[.int .i64 2, .int .i64 0, .slice a7 n7 c7, .slice b7 m7 d7]) (by simp [results, Try.results23, go_sem, g0, g1, g2, g3]) rfl ⟨.slice a7 n7 c7, .slice b7 m7 d7, rfl, ?_, ?_⟩
      · exact (((((HB7.out.setLow (a := ⟨w.heap.size, 0, none⟩) (Nat.lt_succ_self _) _).setLow (a := ⟨w.heap.size, 1, none⟩) (Nat.lt_succ_self _) _).setLow (a := ⟨w.heap.size, 2, none⟩) (Nat.lt_succ_self _) _).setLow (a := ⟨w.heap.size, 3, none⟩) (Nat.lt_succ_self _) _).mono (Nat.le_succ_of_le HR7.out.hR))
      · exact ((((HR7.out.base.setCell (p := ⟨w.heap.size, 0, none⟩) HR7.out.hR _).setCell (p := ⟨w.heap.size, 1, none⟩) HR7.out.hR _).setCell (p := ⟨w.heap.size, 2, none⟩) HR7.out.hR _).setCell (p := ⟨w.heap.size, 3, none⟩) HR7.out.hR _)

end Go.Proofs.Ytboandmffkofaaa.OrderSpec
