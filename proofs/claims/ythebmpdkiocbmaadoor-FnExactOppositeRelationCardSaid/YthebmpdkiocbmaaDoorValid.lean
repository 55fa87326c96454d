
/- What the functions that look whether a relation is valid answer, the program's and the model's.
   Conditions: the relation is read as XRel's text says. -/
import Derived.Test.YthebmpdkiocbmaaDoorColumns
import Derived.Test.YthebmpdkiocbmaaDoorRel
import Derived.Laws.IdiomStrings
namespace Go.Proofs.YthebmpdkiocbmaaDoor.Valid
set_option linter.unusedVariables false
set_option linter.unusedSimpArgs false
open Go.RowKit Mem Rel Columns

def entryOk (n : Int) (y : Int) : Bool := inB y 0 (n - 1)
def rowOk (W n : Int) (x : List Int) : Bool := decide ((x.length : Int) = W) && x.all (entryOk n)
def headB (r : R) : Bool :=
  inB r.tapes 1 3 && decide (1 ≤ (r.accept.length : Int)) && inB r.start 0 (r.accept.length - 1) && decide ((r.next.length : Int) = r.accept.length)
def formB (r : R) : Bool := headB r && r.next.all (rowOk (widthOf r.tapes) r.accept.length)

theorem all_take_succ {α : Type} (xs : List α) (d : α) (p : α → Bool) (k : Nat) (h : k < xs.length) (g : (xs.take k).all p = true) (e : p (xs.getD k d) = true) :
    (xs.take (k + 1)).all p = true := by
  rw [take_succ_getD xs d k h, List.all_append, g, List.all_cons, e]; rfl

theorem all_false {α : Type} (xs : List α) (d : α) (p : α → Bool) (k : Nat) (h : k < xs.length) (e : p (xs.getD k d) = false) : xs.all p = false := by
  rw [List.all_eq_false]
  exact ⟨xs.getD k d, by simp [List.getD, h], by rw [e]; exact Bool.false_ne_true⟩

theorem all_end {α : Type} (xs : List α) (p : α → Bool) (k : Nat) (h : xs.length ≤ k) (g : (xs.take k).all p = true) : xs.all p = true := by
  rwa [List.take_of_length_le h] at g

theorem width_bounds (t : Int) : 2 ≤ widthOf t ∧ widthOf t ≤ 26 := by
  unfold widthOf; split <;> (try split) <;> omega

set_option maxHeartbeats 2000000 in
theorem specForm_core (rt rs : Int) (ra : List Bool) (rn : List (List Int)) (n q : Nat) (HN : Hid (n = ra.length)) (HQ : Hid (q = rn.length)) (bp : Nat) (w : World) (B : Nat)
    (aa ab : Option Addr) (ca bb ob cb : Nat) (U : Nat → Value)
    (c0 : w.cell? ⟨bp, 0, none⟩ = some (.int .i64 rt)) (c1 : w.cell? ⟨bp, 1, none⟩ = some (.int .i64 rs)) (c2 : w.cell? ⟨bp, 2, none⟩ = some (.slice aa n ca)) (c3 : w.cell? ⟨bp, 3, none⟩ = some (.slice ab q cb))
    (hma : n ≤ 9223372036854775807) (hmb : q ≤ 9223372036854775807) (hbb : 0 < q → ab = some ⟨bb, ob, none⟩) (hcb : ∀ i, i < q → w.cell? ⟨bb, ob + i, none⟩ = some (U i)) (hU : ∀ i, i < q → Ints w B (U i) (rn.getD i [])) :
    Calls Tryd.prog 62 #[.pointer (some ⟨bp, 0, none⟩)] w fun e w' => e = .returned (.bool (formB ⟨rt, rs, ra, rn⟩)) ∧ ∃ m, w' = w.drewN m := by
  have HF : Hid (formB ⟨rt, rs, ra, rn⟩ = (headB ⟨rt, rs, ra, rn⟩ && rn.all (rowOk (widthOf rt) n))) := Lib.hid (by rw [HN.out]; rfl)
  have HH : Hid (headB ⟨rt, rs, ra, rn⟩ = (inB rt 1 3 && decide (1 ≤ (n : Int)) && inB rs 0 (n - 1) && decide ((q : Int) = n))) := Lib.hid (by rw [HN.out, HQ.out]; rfl)
  by_cases g1 : 1 ≤ rt ∧ rt ≤ 3
  · have e1 : inB rt 1 3 = true := by simp [inB, g1]
    by_cases g2 : 1 ≤ (n : Int)
    · have d5 : decide ((n : Int) < 1) = false := by simp; omega
      by_cases g3 : 0 ≤ rs ∧ rs ≤ (n : Int) - 1
      · have e3 : inB rs 0 ((n : Int) - 1) = true := by simp [inB, g3]
        by_cases g4 : (q : Int) = n
        · have hqn : q = n := by omega
          subst hqn
          have HHT := Lib.hid (show headB ⟨rt, rs, ra, rn⟩ = true by rw [HH.out, e1, e3]; simp [g2])
          have HE2 := Lib.hid (show formB ⟨rt, rs, ra, rn⟩ = rn.all (rowOk (widthOf rt) q) by rw [HF.out, HHT.out]; rfl)
          clear HF HH HHT g4
          obtain ⟨hW0, hW1⟩ := width_bounds rt
          obtain ⟨r1, r3⟩ := g1
          go_enter Tryd.func62, Tryd.ntmps62
          go_wp2_with (go_at_call 50; refine (inRange _ _ _ _).mono ?_; rintro e w' ⟨rfl, rfl⟩)
          go_loopw [4, 5] (fun i _ wr => ∃ k m : Nat, k ≤ q ∧ i = .int .i64 k ∧ (rn.take k).all (rowOk (widthOf rt) q) = true ∧ wr = w.drewN m) (fun i _ _ => q - (intOf i).toNat)
          case atStart => exact ⟨0, 0, Nat.zero_le _, rfl, rfl, rfl⟩
          case round =>
            obtain ⟨k, m, hk, rfl, hg, rfl⟩ := hrel
            have HG := Lib.hid hg
            clear hg
            by_cases hlt : k < q
            · obtain rfl := hbb (by omega)
              have cH := hcb k hlt
              have hUk := hU k hlt
              obtain ⟨x, hx⟩ : ∃ x, x = rn.getD k [] := ⟨_, rfl⟩
              obtain ⟨u, hu⟩ : ∃ u, u = U k := ⟨_, rfl⟩
              rw [← hu] at cH hUk
              rw [← hx] at hUk
              obtain ⟨ax, bx, ox, cx, hux, hmx, hxx, hcx⟩ := hUk
              obtain ⟨p, hp⟩ : ∃ p, p = x.length := ⟨_, rfl⟩
              rw [← hp] at hux hmx hxx hcx
              rw [hux] at cH
              unfold maxLen at hmx
              have HP := Lib.hid hp
              have HX := Lib.hid hx
              clear hx hu hux hp hcb hU
              have HC := Lib.hid (fun z => (wideAny rt r1 r3 (w.drewN z)).mono fun e w' (h : e = .returned (.int .i64 (widthOf rt)) ∧ w.drewN z = w') => (⟨h.1, 0, h.2.symm⟩ : e = .returned (.int .i64 (widthOf rt)) ∧ ∃ n, w' = (w.drewN z).drewN n))
              obtain ⟨W, hW⟩ : ∃ W, W = widthOf rt := ⟨_, rfl⟩
              rw [← hW] at HC hW0 hW1 HE2 HG
              have HW := Lib.hid hW
              rw [← hW]
              clear hW
              by_cases hl : (p : Int) = W
              · have hl1 : ((p : Int) != W) = false := by simp [hl]
                have HPW := Lib.hid hl
                clear hl
                go_wp2
                go_quiet ((go_at_call 71; exact quiet_drewN HC.out))
                go_wp2
                rw [World.drewN_drewN]
                go_loop [5] (fun j => ∃ l : Nat, l ≤ p ∧ j = .int .i64 l ∧ (x.take l).all (entryOk q) = true) (fun j => p - (intOf j).toNat)
                case atStart => exact ⟨0, Nat.zero_le _, rfl, rfl⟩
                case round =>
                  obtain ⟨l, hl, rfl, hgl⟩ := hrel
                  have HGL := Lib.hid hgl
                  clear hgl
                  by_cases hlp : l < p
                  · obtain rfl := (hxx (by omega)).1
                    have cY := hcx l hlp
                    obtain ⟨y, hy⟩ : ∃ y, y = x.getD l 0 := ⟨_, rfl⟩
                    rw [← hy] at cY
                    have HY := Lib.hid hy
                    clear hy hcx
                    by_cases ho : entryOk q y = true
                    · have hin : inB y 0 ((q : Int) - 1) = true := ho
                      have HA := Lib.hid (all_take_succ x 0 (entryOk q) l (by rw [← HP.out]; exact hlp) HGL.out (by rw [← HY.out]; exact ho))
                      clear ho
                      go_wp2_with (go_at_call 50; refine (inRange _ _ _ _).mono ?_; rintro e w' ⟨rfl, rfl⟩)
                      go_round
                      case rel => exact ⟨l + 1, by omega, by go_num, HA.out⟩
                      case measure => simp [intOf]; omega
                    · have hin : inB y 0 ((q : Int) - 1) = false := by simpa [entryOk] using ho
                      have HA := Lib.hid (show formB ⟨rt, rs, ra, rn⟩ = false by
                        rw [HE2.out]
                        refine all_false rn [] _ k (by rw [← HQ.out]; exact hlt) ?_
                        rw [← HX.out]
                        unfold rowOk
                        rw [all_false x 0 (entryOk q) l (by rw [← HP.out]; exact hlp) (by rw [← HY.out]; simpa using ho)]
                        simp)
                      clear ho
                      go_wp2_with (go_at_call 50; refine (inRange _ _ _ _).mono ?_; rintro e w' ⟨rfl, rfl⟩)
                      go_ret
                      exact ⟨by rw [HA.out]; rfl, _, rfl⟩
                  · have HA := Lib.hid (all_take_succ rn [] (rowOk W q) k (by rw [← HQ.out]; exact hlt) HG.out (by
                      rw [← HX.out]
                      unfold rowOk
                      rw [all_end x (entryOk q) l (by rw [← HP.out]; omega) HGL.out, ← HP.out, decide_eq_true HPW.out]
                      rfl))
                    clear hcx hxx
                    go_wp2
                    go_roundw
                    case rel => exact ⟨k + 1, _, by omega, by go_num, HA.out, rfl⟩
                    case measure => simp [intOf]; omega
              · have hl1 : ((p : Int) != W) = true := by rw [bne_iff_ne]; exact hl
                have HS := Lib.hid (show formB ⟨rt, rs, ra, rn⟩ = false by
                  rw [HE2.out]
                  refine all_false rn [] _ k (by rw [← HQ.out]; exact hlt) ?_
                  rw [← HX.out]
                  unfold rowOk
                  rw [← HP.out, decide_eq_false hl]
                  rfl)
                clear hl hcx hxx
                go_wp2
                go_quiet ((go_at_call 71; exact quiet_drewN HC.out))
                go_wp2
                go_ret
                exact ⟨by rw [HS.out]; rfl, _, World.drewN_drewN ..⟩
            · have HA := Lib.hid (show formB ⟨rt, rs, ra, rn⟩ = true by rw [HE2.out]; exact all_end rn _ k (by rw [← HQ.out]; omega) HG.out)
              clear hcb hU
              go_wp2
              go_ret
              exact ⟨by rw [HA.out]; rfl, _, rfl⟩
        · have HE := Lib.hid (show formB ⟨rt, rs, ra, rn⟩ = false by rw [HF.out, HH.out]; simp [g4])
          have d4 : ((q : Int) != (n : Int)) = true := by rw [bne_iff_ne]; exact g4
          clear HF HH g3 g4 HN HQ hU hcb
          go_enter Tryd.func62, Tryd.ntmps62
          go_wp2_with (go_at_call 50; refine (inRange _ _ _ _).mono ?_; rintro e w' ⟨rfl, rfl⟩)
          go_ret
          exact ⟨by rw [HE.out]; rfl, 0, rfl⟩
      · have HE := Lib.hid (show formB ⟨rt, rs, ra, rn⟩ = false by rw [HF.out, HH.out]; simp [inB, g3])
        have e3 : inB rs 0 ((n : Int) - 1) = false := by simp [inB]; omega
        clear HF HH g3 HN HQ hU hcb
        go_enter Tryd.func62, Tryd.ntmps62
        go_wp2_with (go_at_call 50; refine (inRange _ _ _ _).mono ?_; rintro e w' ⟨rfl, rfl⟩)
        go_ret
        exact ⟨by rw [HE.out]; rfl, 0, rfl⟩
    · have HE := Lib.hid (show formB ⟨rt, rs, ra, rn⟩ = false by rw [HF.out, HH.out]; simp [g2])
      have d5 : decide ((n : Int) < 1) = true := by simp; omega
      clear HF HH g2 HN HQ hU hcb
      go_enter Tryd.func62, Tryd.ntmps62
      go_wp2_with (go_at_call 50; refine (inRange _ _ _ _).mono ?_; rintro e w' ⟨rfl, rfl⟩)
      go_ret
      exact ⟨by rw [HE.out]; rfl, 0, rfl⟩
  · have e1 : inB rt 1 3 = false := by simp [inB]; omega
    have HE := Lib.hid (show formB ⟨rt, rs, ra, rn⟩ = false by rw [HF.out, HH.out, e1]; simp)
    clear HF HH g1 HN HQ hU hcb
    go_enter Tryd.func62, Tryd.ntmps62
    go_wp2_with (go_at_call 50; refine (inRange _ _ _ _).mono ?_; rintro e w' ⟨rfl, rfl⟩)
    go_ret
    exact ⟨by rw [HE.out]; rfl, 0, rfl⟩

/-- At block bp lies a relation's struct, which reads as r. -/
def RelPtr (w : World) (B bp : Nat) (r : R) : Prop :=
  ∃ va vn, w.cell? ⟨bp, 0, none⟩ = some (.int .i64 r.tapes) ∧ w.cell? ⟨bp, 1, none⟩ = some (.int .i64 r.start) ∧ w.cell? ⟨bp, 2, none⟩ = some va ∧ w.cell? ⟨bp, 3, none⟩ = some vn ∧ Bools w B va r.accept ∧ IntRows w B vn r.next

theorem RelPtr.drewN {w : World} {B bp : Nat} {r : R} (h : RelPtr w B bp r) (m : Nat) : RelPtr (w.drewN m) B bp r := h

theorem RelPtr.below {w w' : World} {B B' bp : Nat} {r : R} (h : RelPtr w B bp r) (hb : Below B' w w') (hB : B ≤ B') (hp : bp < B') : RelPtr w' B bp r := by
  obtain ⟨va, vn, c0, c1, c2, c3, ha, hn⟩ := h
  refine ⟨va, vn, ?_, ?_, ?_, ?_, ha.below hb hB, hn.below hb hB⟩
  · rw [hb.cell (p := ⟨bp, 0, none⟩) hp]; exact c0
  · rw [hb.cell (p := ⟨bp, 1, none⟩) hp]; exact c1
  · rw [hb.cell (p := ⟨bp, 2, none⟩) hp]; exact c2
  · rw [hb.cell (p := ⟨bp, 3, none⟩) hp]; exact c3

theorem RelPtr.boxed {w : World} {B : Nat} {r : R} {va vn : Value} (ha : Bools w B va r.accept) (hn : IntRows w B vn r.next) (hB : B ≤ w.heap.size) (t : TypeId) :
    RelPtr (w.alloc (.cells #[.int .i64 r.tapes, .int .i64 r.start, va, vn] t)) B w.heap.size r :=
  ⟨va, vn, World.cell?_alloc_mark .., World.cell?_alloc_mark .., World.cell?_alloc_mark .., World.cell?_alloc_mark ..,
    ha.below ((Below.refl _ _).alloc (Nat.le_refl _) _) hB, hn.below ((Below.refl _ _).alloc (Nat.le_refl _) _) hB⟩

theorem specForm (r : R) (bp : Nat) (w : World) (B : Nat) (h : RelPtr w B bp r) :
    Calls Tryd.prog 62 #[.pointer (some ⟨bp, 0, none⟩)] w fun e w' => e = .returned (.bool (formB r)) ∧ ∃ m, w' = w.drewN m := by
  obtain ⟨va, vn, c0, c1, c2, c3, ⟨aa, ba, oa, ca, rfl, hma, -, -⟩, ⟨U, ⟨ab, bb, ob, cb, rfl, hmb, hbb, hcb⟩, hU⟩⟩ := h
  exact specForm_core r.tapes r.start r.accept r.next _ _ (Lib.hid rfl) (Lib.hid rfl) bp w B aa ab ca bb ob cb U c0 c1 c2 c3 hma hmb (fun h => (hbb h).1) hcb hU

def okB (r : R) : Bool := decide ((r.accept.length : Int) ≤ 150) && formB r

set_option maxHeartbeats 400000 in
theorem specOk (r : R) (bp : Nat) (w : World) (B : Nat) (h : RelPtr w B bp r) :
    Calls Tryd.prog 34 #[.pointer (some ⟨bp, 0, none⟩)] w fun e w' => e = .returned (.bool (okB r)) ∧ ∃ m, w' = w.drewN m := by
  have HC := Lib.hid (specForm r bp w B h)
  obtain ⟨va, vn, -, -, c2, -, ⟨aa, ba, oa, ca, rfl, hma, -, -⟩, -⟩ := h
  unfold maxLen at hma
  obtain ⟨n, hn⟩ : ∃ n, n = r.accept.length := ⟨_, rfl⟩
  rw [← hn] at c2 hma
  have HN := Lib.hid hn
  clear hn
  by_cases hl : (n : Int) ≤ 150
  · have E := Lib.hid (show okB r = formB r by unfold okB; rw [← HN.out, decide_eq_true hl]; rfl)
    have d1 : decide ((n : Int) ≤ 150) = true := by simpa using hl
    obtain ⟨F, hF⟩ : ∃ F, F = formB r := ⟨_, rfl⟩
    rw [← hF] at HC E
    clear hF
    go_enter Tryd.func34, Tryd.ntmps34
    go_wp2_with (go_at_call 62; refine (HC.out).mono ?_; rintro e w' ⟨rfl, n1, rfl⟩)
    go_ret
    exact ⟨by rw [E.out]; rfl, _, rfl⟩
  · have E := Lib.hid (show okB r = false by unfold okB; rw [← HN.out, decide_eq_false hl]; rfl)
    have d1 : decide ((n : Int) ≤ 150) = false := by simpa using hl
    go_enter Tryd.func34, Tryd.ntmps34
    go_wp2_with fail
    go_ret
    exact ⟨by rw [E.out]; rfl, 0, rfl⟩

end Go.Proofs.YthebmpdkiocbmaaDoor.Valid
