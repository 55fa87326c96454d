
/- What the model's function that makes finer classes hands back: a new table of numbers.
   Conditions: the relation's rows have one length, and lead to states; the classes are read as XMem's text says. -/
import Derived.Test.YtaimealknkhfbaaDoorRB7
namespace Go.Proofs.YtaimealknkhfbaaDoor.SpecNum
set_option linter.unusedVariables false
set_option linter.unusedSimpArgs false
open Go.RowKit Mem Copy Rel Valid Heap TidyMath TidyClass TidyAuto SpecFiner

theorem key_none {nx : List (List Nat)} {c : Nat → Nat} {l : List Nat} {s : Nat} (h : ∀ i, i < l.length → key nx c (l.getD i 0) ≠ key nx c s) : idx (key nx c) l s = l.length := by
  unfold idx
  rw [List.findIdx_eq_length]
  intro x hx
  obtain ⟨i, hi, rfl⟩ := List.getElem_of_mem hx
  have := h i hi
  simp only [List.getD, List.getElem?_eq_getElem hi, Option.getD_some] at this
  exact decide_eq_false this
theorem key_first {nx : List (List Nat)} {c : Nat → Nat} {l : List Nat} {s j : Nat} (hj : j < l.length) (h : ∀ i, i < j → key nx c (l.getD i 0) ≠ key nx c s) (e : key nx c (l.getD j 0) = key nx c s) : idx (key nx c) l s = j := by
  unfold idx
  rw [List.findIdx_eq hj]
  simp only [List.getD, List.getElem?_eq_getElem hj, Option.getD_some] at e
  refine ⟨decide_eq_true e, fun i hi => ?_⟩
  have := h i hi
  simp only [List.getD, List.getElem?_eq_getElem (Nat.lt_trans hi hj), Option.getD_some] at this
  exact decide_eq_false this
theorem key_eq {nx : List (List Nat)} {c : Nat → Nat} {a b : Nat} : key nx c a = key nx c b ↔ c a = c b ∧ (nx.getD a []).map c = (nx.getD b []).map c := by
  unfold key; rw [Prod.mk.injEq]

/-- Where the search for a state like this one stands. -/
def Mid (nx : List (List Nat)) (c : Nat → Nat) (l : List Nat) (s j : Nat) (o : Int) : Prop :=
  j ≤ l.length ∧ ((o = -1 ∧ ∀ i, i < j → key nx c (l.getD i 0) ≠ key nx c s) ∨ (0 < j ∧ o = ((j - 1 : Nat) : Int) ∧ idx (key nx c) l s = j - 1))

set_option maxHeartbeats 4000000 in
theorem finer (nx : List (List Nat)) (n W : Nat) (c : Nat → Nat) (bp : Nat) (w : World) (B : Nat) (r : R) (h : RelPtr w B bp r) (hB : B ≤ w.heap.size) (hbp : bp < w.heap.size) (hnext : r.next = nx.map ofN) (vc : Value) (hc : Ints w B vc (tabN n c))
    (hok : RowsOk nx n W) (hW : W ≤ 26) (hn : n ≤ 1000000) :
    Calls Tryd.prog 31 #[.pointer (some ⟨bp, 0, none⟩), vc] w fun e w' => ∃ v, e = .returned (.tuple #[v, .int .i64 ((reps (key nx c) n).length : Nat)]) ∧ Lst w' w.heap.size 2 v (tv n fun s => (idx (key nx c) (reps (key nx c) n) s : Nat)) ∧ Below w.heap.size w w' := by
  have HREL := Lib.hid (fun W (hb : Below w.heap.size w W) => h.below hb hB hbp)
  have HINT := Lib.hid (fun W (hb : Below w.heap.size w W) => hc.below hb hB)
  have HBB := Lib.hid hB
  have HNX := Lib.hid hnext
  have HOK := Lib.hid hok
  obtain ⟨ac, bc, oc, cc, rfl, hmc, hcc, hcv⟩ := hc
  rw [tabN_length] at hmc hcc hcv HINT ⊢
  clear h hB hnext hok hmc
  have hmk := run_make_row' (P := Tryd.prog) 52 2 (.int .i64 0) 8 Tryd.underlying52 info2 rfl .i64 .i64 n (by omega) (by omega)
  have HO0 := Lib.hid (show Own ((w.alloc (.cells (madeCells #[Value.int .i64 0] n) 2)).alloc (.cells #[] 2)) w.heap.size 2 [(.slice (some ⟨w.heap.size, 0, none⟩) n n, tv n fun i => if i < 0 then ((idx (key nx c) (reps (key nx c) n) i : Nat) : Int) else 0), (.slice (some ⟨w.heap.size + 1, 0, none⟩) 0 0, iv (reps (key nx c) 0))] by
    have h1 := Lst.made w w.heap.size 2 (.int .i64 0) n (Nat.le_refl _) (by unfold maxLen; omega)
    have h2 := Lst.empty (w.alloc (.cells (madeCells #[Value.int .i64 0] n) 2)) w.heap.size 2 (by simp)
    rw [tv_rep] at h1
    simp only [size_alloc'] at h2
    refine Own.add (Own.add (Own.nil _ _ _) h2 (fun p hp => by cases hp)) ?_ ?_
    · exact (h1.alloc _)
    · intro p hp k hk e
      rw [List.mem_singleton] at hp
      subst hp
      cases hk
      simp [Value.ownBlock] at e)
  have HB0 := Lib.hid (show Below w.heap.size w ((w.alloc (.cells (madeCells #[Value.int .i64 0] n) 2)).alloc (.cells #[] 2)) from ((Below.refl _ _).alloc (Nat.le_refl _) _).alloc (by simp) _)
  go_enter Tryd.func31, Tryd.ntmps31
  go_wp2_with fail
  go_loopw [8, 9, 10] (fun s8 s _ wr => ∃ (k : Nat) (a8 : Option Addr) (cap8 : Nat), k ≤ n ∧ s = .int .i64 k ∧ s8 = .slice a8 (reps (key nx c) k).length cap8 ∧ Own wr w.heap.size 2 [(.slice (some ⟨w.heap.size, 0, none⟩) n n, tv n fun i => if i < k then ((idx (key nx c) (reps (key nx c) n) i : Nat) : Int) else 0), (.slice a8 (reps (key nx c) k).length cap8, iv (reps (key nx c) k))] ∧ Below w.heap.size w wr) (fun _ s _ _ => n - (intOf s).toNat)
  case atStart => exact ⟨0, _, _, Nat.zero_le _, rfl, rfl, HO0.out, HB0.out⟩
  case round =>
    obtain ⟨k, a8, cap8, hk, rfl, rfl, hown, hbel⟩ := hrel
    have HO := Lib.hid hown
    have HB := Lib.hid hbel
    clear hown hbel hmk HO0 HB0
    by_cases hlt : k < n
    · obtain ⟨F, hF⟩ : ∃ F, F = reps (key nx c) k := ⟨_, rfl⟩
      obtain ⟨L, hL⟩ : ∃ L, L = F.length := ⟨_, rfl⟩
      have HFL := Lib.hid hL
      have hLn : L ≤ 1000000 := by rw [hL, hF]; have := reps_le (key nx c) k; omega
      rw [← hF, ← hL] at HO
      rw [← hF, ← hL]
      have HF := Lib.hid hF
      have HX := Lib.hid (Own.set [] [(.slice a8 L cap8, iv F)] (i := k) HO.out (by rw [tv_length]; exact hlt) (.int .i64 (-1)))
      rw [tv_set] at HX
      have c7 := (Own.get [] [_] HO.out).cellOf (i := k) (by rw [tv_length]; exact hlt)
      rw [tv_get] at c7
      rw [if_neg (Nat.lt_irrefl k)] at c7
      have f7 := (Own.get [] [_] HO.out).free k
      have HBX := Lib.hid (HB.out.setCell (p := ⟨w.heap.size, k, none⟩) (Nat.le_refl _) (.int .i64 (-1)))
      clear hF hL
      go_wp2_with fail
      go_loopw [10] (fun j wr2 => ∃ (j' : Nat) (o : Int), j = .int .i64 j' ∧ Mid nx c F k j' o ∧ Own wr2 w.heap.size 2 [(.slice (some ⟨w.heap.size, 0, none⟩) n n, tv n fun i => if i = k then o else if i = k then -1 else if i < k then ((idx (key nx c) (reps (key nx c) n) i : Nat) : Int) else 0), (.slice a8 L cap8, iv F)] ∧ Below w.heap.size w wr2) (fun j _ => L + 1 - (intOf j).toNat)
      case atStart =>
        refine ⟨0, -1, rfl, ⟨Nat.zero_le _, .inl ⟨rfl, fun i h0 => absurd h0 (Nat.not_lt_zero i)⟩⟩, ?_, HBX.out⟩
        have := HX.out
        simp only [List.nil_append] at this
        rw [show (fun i => if i = k then (-1 : Int) else if i = k then -1 else if i < k then ((idx (key nx c) (reps (key nx c) n) i : Nat) : Int) else 0) = (fun i => if i = k then (-1 : Int) else if i < k then ((idx (key nx c) (reps (key nx c) n) i : Nat) : Int) else 0) from funext fun i => by by_cases e : i = k <;> simp [e]]
        exact this
      case round =>
        obtain ⟨j, o, rfl, hmid, hown2, hbel2⟩ := hrel
        have HM := Lib.hid hmid
        have HO2 := Lib.hid hown2
        have HB2 := Lib.hid hbel2
        have c8 := (Own.get [] [_] HO2.out).cellOf (i := k) (by rw [tv_length]; exact hlt)
        rw [tv_get] at c8
        rw [if_pos rfl] at c8
        have f8 := (Own.get [] [_] HO2.out).free k
        have hjL : j ≤ L := by have := HM.out.1; rw [← HFL.out] at this; exact this
        clear hmid hown2 hbel2 HX HBX c7 f7
        by_cases hjl : j < L
        · by_cases ho : o < 0
          · have ho1 := Lib.hid (show o = -1 ∧ ∀ i, i < j → key nx c (F.getD i 0) ≠ key nx c k by
              rcases HM.out.2 with h1 | ⟨h1, h2, -⟩
              · exact h1
              · omega)
            obtain ⟨rfl, -⟩ : o = -1 ∧ True := ⟨ho1.out.1, trivial⟩
            obtain ⟨g8, rfl, -⟩ := (Own.get [_] [] HO2.out).addr (by rw [iv_length]; have := HFL.out; omega)
            have hjF : j < F.length := by have := HFL.out; omega
            have c9 := (Own.get [_] [] HO2.out).cellOf (i := j) (by rw [iv_length]; exact hjF)
            rw [iv_get] at c9
            have hFk : F.getD j 0 < k := by
              have : F.getD j 0 ∈ reps (key nx c) k := by rw [← HF.out]; exact getD_mem F hjF
              exact reps_lt _ _ _ this
            have HJF := Lib.hid hjF
            obtain ⟨f, hf⟩ : ∃ f, f = F.getD j 0 := ⟨_, rfl⟩
            rw [← hf] at c9 hFk
            have HFJ := Lib.hid hf
            obtain rfl := (hcc (by omega)).1
            have hbc := (hcc (by omega)).2
            have d1 := (HB2.out.cell (p := ⟨bc, oc + f, none⟩) (by have := HBB.out; show bc < _; omega)).trans (hcv f (by omega))
            have d2 := (HB2.out.cell (p := ⟨bc, oc + k, none⟩) (by have := HBB.out; show bc < _; omega)).trans (hcv k hlt)
            rw [tabN_get n c (by omega)] at d1 d2
            have HAL := Lib.hid (fun q => alike nx n c f k bp (wr.drewN q) _ r ((HREL.out _ HB2.out).drewN q) HNX.out (.slice (some ⟨bc, oc, none⟩) n cc) (by have := HINT.out _ HB2.out; exact this) (by rw [HOK.out.1]; omega) (by rw [HOK.out.1]; exact hlt) (by rw [(HOK.out.2 f (by omega)).1, (HOK.out.2 k hlt).1]) (by rw [(HOK.out.2 f (by omega)).1]; exact hW) (by rw [(HOK.out.2 f (by omega)).1]; exact (HOK.out.2 f (by omega)).2) (by rw [(HOK.out.2 k hlt).1]; exact (HOK.out.2 k hlt).2))
            obtain ⟨cf, hcf⟩ : ∃ cf, cf = c f := ⟨_, rfl⟩
            obtain ⟨ck, hck⟩ : ∃ ck, ck = c k := ⟨_, rfl⟩
            rw [← hcf] at d1
            rw [← hck] at d2
            have HCF := Lib.hid hcf
            have HCK := Lib.hid hck
            clear hcf hck hf hcc hcv hjF HO
            by_cases hcls : cf = ck
            · subst hcls
              have hd : decide ((cf : Int) = cf) = true := by simp
              have hd' : ((cf : Int) == cf) = true := by simp
              by_cases hrow : (nx.getD f []).map c = (nx.getD k []).map c
              · have HAT := Lib.hid (fun q => (show Calls Tryd.prog 48 #[.pointer (some ⟨bp, 0, none⟩), .slice (some ⟨bc, oc, none⟩) n cc, .int .i64 f, .int .i64 k] (wr.drewN q) fun e w' => e = .returned (.bool true) ∧ ∃ m, w' = (wr.drewN q).drewN m from (HAL.out q).mono fun e w' ⟨he, hw⟩ => ⟨by rw [he, decide_eq_true hrow], hw⟩))
                have HSM := Lib.hid (fun m => (show Own ((wr.drewN m).setCell ⟨w.heap.size, k, none⟩ (.int .i64 (j : Int))) w.heap.size 2 [(.slice (some ⟨w.heap.size, 0, none⟩) n n, tv n fun i => if i = k then (j : Int) else if i = k then -1 else if i < k then ((idx (key nx c) (reps (key nx c) n) i : Nat) : Int) else 0), (.slice (some ⟨g8, 0, none⟩) L cap8, iv F)] from by
                  have h1 := Own.set [] [(.slice (some ⟨g8, 0, none⟩) L cap8, iv F)] (i := k) (HO2.out.drewN m) (by rw [tv_length]; exact hlt) (.int .i64 (j : Int))
                  rw [tv_set, List.nil_append] at h1
                  rw [show (fun i => if i = k then (j : Int) else if i = k then -1 else if i < k then ((idx (key nx c) (reps (key nx c) n) i : Nat) : Int) else 0) = (fun i => if i = k then (j : Int) else if i = k then (-1 : Int) else if i = k then -1 else if i < k then ((idx (key nx c) (reps (key nx c) n) i : Nat) : Int) else 0) from funext fun i => by by_cases e : i = k <;> simp [e]]
                  exact h1))
                have HI := Lib.hid (key_first HJF.out ho1.out.2 (key_eq.2 (by rw [← HFJ.out]; exact ⟨by rw [← HCF.out, ← HCK.out], hrow⟩)))
                clear hrow
                go_wp2_with fail
                go_quiet ((go_at_call 48; exact Calls.quiet_of (HAT.out _)))
                go_wp2_with fail
                go_roundw
                case rel =>
                  refine ⟨j + 1, (j : Int), by go_num, ⟨by have := HJF.out; omega, .inr ⟨by omega, by simp, by rw [HI.out]; simp⟩⟩, HSM.out _, (below_drewN HB2.out _).setCell (Nat.le_refl _) _⟩
                case measure => simp [intOf]; omega
              · have HAT := Lib.hid (fun q => (show Calls Tryd.prog 48 #[.pointer (some ⟨bp, 0, none⟩), .slice (some ⟨bc, oc, none⟩) n cc, .int .i64 f, .int .i64 k] (wr.drewN q) fun e w' => e = .returned (.bool false) ∧ ∃ m, w' = (wr.drewN q).drewN m from (HAL.out q).mono fun e w' ⟨he, hw⟩ => ⟨by rw [he, decide_eq_false hrow], hw⟩))
                have HNE := Lib.hid (show key nx c (F.getD j 0) ≠ key nx c k from fun e => hrow (by rw [← HFJ.out] at e; exact (key_eq.1 e).2))
                clear hrow
                go_wp2_with fail
                go_quiet ((go_at_call 48; exact Calls.quiet_of (HAT.out _)))
                go_wp2_with fail
                go_roundw
                case rel =>
                  refine ⟨j + 1, -1, by go_num, ⟨by have := HJF.out; omega, .inl ⟨rfl, fun i hi => ?_⟩⟩, HO2.out.drewN _, below_drewN HB2.out _⟩
                  by_cases e : i = j
                  · rw [e]; exact HNE.out
                  · exact ho1.out.2 i (by omega)
                case measure => simp [intOf]; omega
            · have hd : decide ((cf : Int) = ck) = false := by simp; omega
              have hd' : ((cf : Int) == ck) = false := by simp; omega
              have HNE := Lib.hid (show key nx c (F.getD j 0) ≠ key nx c k from fun e => hcls (by rw [HCF.out, HCK.out]; rw [← HFJ.out] at e; exact (key_eq.1 e).1))
              clear hcls
              go_wp2_with fail
              go_quiet (fail)
              go_wp2_with fail
              go_roundw
              case rel =>
                refine ⟨j + 1, -1, by go_num, ⟨by have := HJF.out; omega, .inl ⟨rfl, fun i hi => ?_⟩⟩, HO2.out.drewN _, below_drewN HB2.out _⟩
                by_cases e : i = j
                · rw [e]; exact HNE.out
                · exact ho1.out.2 i (by omega)
              case measure => simp [intOf]; omega
          · have HR := Lib.hid (show 0 < j ∧ o = ((j - 1 : Nat) : Int) ∧ idx (key nx c) F k = j - 1 by
              rcases HM.out.2 with ⟨h1, -⟩ | h1
              · omega
              · exact h1)
            have HSH := Lib.hid (show reps (key nx c) (k + 1) = F by
              rw [reps_succ, ← HF.out]
              unfold meet
              rw [if_pos (by have := HR.out; have := HM.out.1; omega)])
            have HTT := Lib.hid (show o = ((idx (key nx c) (reps (key nx c) n) k : Nat) : Int) by
              rw [← reps_num (key nx c) hlt, ← HF.out, HR.out.2.2, HR.out.2.1])
            go_wp2_with fail
            go_roundw
            case rel =>
              refine ⟨k + 1, a8, cap8, hlt, by go_num, by rw [HSH.out, ← HFL.out], ?_, HB2.out⟩
              rw [HSH.out, ← HFL.out]
              have h1 := HO2.out
              rw [show (fun i => if i < k + 1 then ((idx (key nx c) (reps (key nx c) n) i : Nat) : Int) else 0) = (fun i => if i = k then o else if i = k then -1 else if i < k then ((idx (key nx c) (reps (key nx c) n) i : Nat) : Int) else 0) from funext fun i => (fin_T (f := fun i => ((idx (key nx c) (reps (key nx c) n) i : Nat) : Int)) (fun _ => rfl) HTT.out i).symm]
              exact h1
            case measure => simp [intOf]; omega
        · have hjE : j = L := by omega
          subst hjE
          by_cases ho : o < 0
          · have ho1 := Lib.hid (show o = -1 ∧ ∀ i, i < j → key nx c (F.getD i 0) ≠ key nx c k by
              rcases HM.out.2 with h1 | ⟨h1, h2, -⟩
              · exact h1
              · omega)
            obtain ⟨rfl, -⟩ : o = -1 ∧ True := ⟨ho1.out.1, trivial⟩
            have HI := Lib.hid (key_none (nx := nx) (c := c) (l := F) (s := k) (fun i hi => ho1.out.2 i (by rw [HFL.out]; exact hi)))
            have HSH := Lib.hid (show reps (key nx c) (k + 1) = F ++ [k] by
              rw [reps_succ, ← HF.out]
              unfold meet
              rw [if_neg (by rw [HI.out]; omega)])
            have HTT := Lib.hid (show ((j : Nat) : Int) = ((idx (key nx c) (reps (key nx c) n) k : Nat) : Int) by
              rw [← reps_num (key nx c) hlt, ← HF.out, HI.out, HFL.out])
            have HS2 := Lib.hid (Own.set [] [(.slice a8 j cap8, iv F)] (i := k) (HO2.out) (by rw [tv_length]; exact hlt) (.int .i64 (j : Int)))
            rw [tv_set, List.nil_append] at HS2
            have HBS := Lib.hid (HB2.out.setCell (p := ⟨w.heap.size, k, none⟩) (Nat.le_refl _) (.int .i64 (j : Int)))
            have hszw : (wr.setCell ⟨w.heap.size, k, none⟩ (.int .i64 (j : Int))).heap.size = wr.heap.size := by simp [World.setCell]
            have HSZ := Lib.hid hszw
            have HGE := Lib.hid HB2.out.size
            clear hszw hcc hcv
            go_wp2_with (at_builtin; refine wpList_push rfl _ _ 52 rfl 2 (.int .i64 0) 8 Tryd.underlying52 info2 (by decide) (by decide) w.heap.size (.slice a8 j cap8) (iv F) (.int .i64 (k : Int)) (Own.get [_] [] HS2.out) (by rw [HSZ.out]; exact HGE.out) rfl (by rw [iv_length, ← HFL.out]; omega) rfl _ rfl (by simp [HSZ.out]) ?_; intro v' w4 hp4; have HP4 := Lib.hid hp4; clear hp4)
            go_roundw
            case rel =>
              have hown := Own.push [_] [] HS2.out HP4.out
              rw [iv_push] at hown
              obtain ⟨a', cap', hv', -⟩ := HP4.out.lst.shape
              have hlen : (iv F ++ [Value.int .i64 (k : Int)]).length = (reps (key nx c) (k + 1)).length := by rw [HSH.out, iv_push, iv_length]
              rw [hlen] at hv'
              subst hv'
              refine ⟨k + 1, a', cap', hlt, by go_num, rfl, ?_, HBS.out.grown HP4.out.grow (by rw [HSZ.out]; exact HGE.out) (fun q hq => (Own.get [_] [] HS2.out).ge hq)⟩
              have hown' : Own w4 w.heap.size 2 [(.slice (some ⟨w.heap.size, 0, none⟩) n n, _), (_, iv (F ++ [k]))] := hown
              rw [← HSH.out] at hown'
              rw [show (fun i => if i < k + 1 then ((idx (key nx c) (reps (key nx c) n) i : Nat) : Int) else 0) = (fun i => if i = k then ((j : Nat) : Int) else if i = k then -1 else if i = k then -1 else if i < k then ((idx (key nx c) (reps (key nx c) n) i : Nat) : Int) else 0) from funext fun i => (by
                rw [← fin_T (f := fun i => ((idx (key nx c) (reps (key nx c) n) i : Nat) : Int)) (k := k) (o := ((j : Nat) : Int)) (fun _ => rfl) HTT.out i]
                by_cases e : i = k <;> simp [e])]
              exact hown'
            case measure => simp [intOf]; omega
          · have HR := Lib.hid (show 0 < j ∧ o = ((j - 1 : Nat) : Int) ∧ idx (key nx c) F k = j - 1 by
              rcases HM.out.2 with ⟨h1, -⟩ | h1
              · omega
              · exact h1)
            have HSH := Lib.hid (show reps (key nx c) (k + 1) = F by
              rw [reps_succ, ← HF.out]
              unfold meet
              rw [if_pos (by have := HR.out; have := HM.out.1; omega)])
            have HTT := Lib.hid (show o = ((idx (key nx c) (reps (key nx c) n) k : Nat) : Int) by
              rw [← reps_num (key nx c) hlt, ← HF.out, HR.out.2.2, HR.out.2.1])
            go_wp2_with fail
            go_roundw
            case rel =>
              refine ⟨k + 1, a8, cap8, hlt, by go_num, by rw [HSH.out, ← HFL.out], ?_, HB2.out⟩
              rw [HSH.out, ← HFL.out]
              have h1 := HO2.out
              rw [show (fun i => if i < k + 1 then ((idx (key nx c) (reps (key nx c) n) i : Nat) : Int) else 0) = (fun i => if i = k then o else if i = k then -1 else if i < k then ((idx (key nx c) (reps (key nx c) n) i : Nat) : Int) else 0) from funext fun i => (fin_T (f := fun i => ((idx (key nx c) (reps (key nx c) n) i : Nat) : Int)) (fun _ => rfl) HTT.out i).symm]
              exact h1
            case measure => simp [intOf]; omega
    · obtain rfl : k = n := by omega
      clear hcc hcv
      go_wp2
      go_ret2
      refine ⟨_, rfl, ?_, HB.out⟩
      have h1 := Own.get [] [_] HO.out
      rw [tv_congr (S := fun i => ((idx (key nx c) (reps (key nx c) k) i : Nat) : Int)) (fun i hi => by rw [if_pos hi])] at h1
      exact h1
end Go.Proofs.YtaimealknkhfbaaDoor.SpecNum
