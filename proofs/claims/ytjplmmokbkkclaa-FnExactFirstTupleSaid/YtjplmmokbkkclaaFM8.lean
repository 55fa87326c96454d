
/- What the functions that look whether a relation is valid answer, the program's and the model's.
   Conditions: the relation is read as XRel's text says. -/
import Derived.Test.YtjplmmokbkkclaaFM7
import Derived.Test.YtjplmmokbkkclaaFM4
import Derived.Laws.IdiomStrings
import Derived.Deep.QuietTactic
import Derived.BigQuiet
import Derived.Test.YtjplmmokbkkclaaFM6
import Derived.Test.YtjplmmokbkkclaaFM3
import Derived.Test.YtjplmmokbkkclaaFM5
import Derived.Test.YtjplmmokbkkclaaFM1
namespace Go.Proofs.Ytjplmmokbkkclaa.Valid
set_option linter.unusedVariables false
set_option linter.unusedSimpArgs false
open Go.RowKit Mem Rel Columns

def entryOk (n : Int) (y : Int) : Bool := inB y 0 (n - 1)
def rowOk (W n : Int) (x : List Int) : Bool := decide ((x.length : Int) = W) && x.all (entryOk n)
def headB (r : R) : Bool :=
  inB r.tapes 1 3 && decide (1 ≤ (r.accept.length : Int)) && inB r.start 0 (r.accept.length - 1) && decide ((r.next.length : Int) = r.accept.length)
def formB (r : R) : Bool := headB r && r.next.all (rowOk (widthOf r.tapes) r.accept.length)

theorem all_take_succ {α : Type} (xs : List α) (d : α) (p : α → Bool) (k : Nat) (h : k < xs.length) (g : (xs.take k).all p = true) (e : p (xs.getD k d) = true) :
    (xs.take (k + 1)).all p = true := by
  rw [take_succ_getD xs d k h, List.all_append, g, List.all_cons, e]; rfl

theorem all_false {α : Type} (xs : List α) (d : α) (p : α → Bool) (k : Nat) (h : k < xs.length) (e : p (xs.getD k d) = false) : xs.all p = false := by
  rw [List.all_eq_false]
  exact ⟨xs.getD k d, by simp [List.getD, h], by rw [e]; exact Bool.false_ne_true⟩

theorem all_end {α : Type} (xs : List α) (p : α → Bool) (k : Nat) (h : xs.length ≤ k) (g : (xs.take k).all p = true) : xs.all p = true := by
  rwa [List.take_of_length_le h] at g

theorem width_bounds (t : Int) : 2 ≤ widthOf t ∧ widthOf t ≤ 26 := by
  unfold widthOf; split <;> (try split) <;> omega

set_option maxHeartbeats 2000000 in
theorem specForm_core (rt rs : Int) (ra : List Bool) (rn : List (List Int)) (n q : Nat) (HN : Hid (n = ra.length)) (HQ : Hid (q = rn.length)) (bp : Nat) (w : World) (B : Nat)
    (aa ab : Option Addr) (ca bb ob cb : Nat) (U : Nat → Value)
    (c0 : w.cell? ⟨bp, 0, none⟩ = some (.int .i64 rt)) (c1 : w.cell? ⟨bp, 1, none⟩ = some (.int .i64 rs)) (c2 : w.cell? ⟨bp, 2, none⟩ = some (.slice aa n ca)) (c3 : w.cell? ⟨bp, 3, none⟩ = some (.slice ab q cb))
    (hma : n ≤ 9223372036854775807) (hmb : q ≤ 9223372036854775807) (hbb : 0 < q → ab = some ⟨bb, ob, none⟩) (hcb : ∀ i, i < q → w.cell? ⟨bb, ob + i, none⟩ = some (U i)) (hU : ∀ i, i < q → Ints w B (U i) (rn.getD i [])) :
    Calls Try.prog 60 #[.pointer (some ⟨bp, 0, none⟩)] w fun e w' => e = .returned (.bool (formB ⟨rt, rs, ra, rn⟩)) ∧ ∃ m, w' = w.drewN m := by
  have HF : Hid (formB ⟨rt, rs, ra, rn⟩ = (headB ⟨rt, rs, ra, rn⟩ && rn.all (rowOk (widthOf rt) n))) := Lib.hid (by rw [HN.out]; rfl)
  have HH : Hid (headB ⟨rt, rs, ra, rn⟩ = (inB rt 1 3 && decide (1 ≤ (n : Int)) && inB rs 0 (n - 1) && decide ((q : Int) = n))) := Lib.hid (by rw [HN.out, HQ.out]; rfl)
  by_cases g1 : 1 ≤ rt ∧ rt ≤ 3
  · have e1 : inB rt 1 3 = true := by simp [inB, g1]
    by_cases g2 : 1 ≤ (n : Int)
    · have d5 : decide ((n : Int) < 1) = false := by simp; omega
      by_cases g3 : 0 ≤ rs ∧ rs ≤ (n : Int) - 1
      · have e3 : inB rs 0 ((n : Int) - 1) = true := by simp [inB, g3]
        by_cases g4 : (q : Int) = n
        · have hqn : q = n := by omega
          subst hqn
          have HHT := Lib.hid (show headB ⟨rt, rs, ra, rn⟩ = true by rw [HH.out, e1, e3]; simp [g2])
          have HE2 := Lib.hid (show formB ⟨rt, rs, ra, rn⟩ = rn.all (rowOk (widthOf rt) q) by rw [HF.out, HHT.out]; rfl)
          clear HF HH HHT g4
          obtain ⟨hW0, hW1⟩ := width_bounds rt
          obtain ⟨r1, r3⟩ := g1
          go_enter Try.func60, Try.ntmps60
          go_wp2_with (go_at_call 71; refine (inRange _ _ _ _).mono ?_; rintro e w' ⟨rfl, rfl⟩)
          go_loopw [4, 5] (fun i _ wr => ∃ k m : Nat, k ≤ q ∧ i = .int .i64 k ∧ (rn.take k).all (rowOk (widthOf rt) q) = true ∧ wr = w.drewN m) (fun i _ _ => q - (intOf i).toNat)
          case atStart => exact ⟨0, 0, Nat.zero_le _, rfl, rfl, rfl⟩
          case round =>
            obtain ⟨k, m, hk, rfl, hg, rfl⟩ := hrel
            have HG := Lib.hid hg
            clear hg
            by_cases hlt : k < q
            · obtain rfl := hbb (by omega)
              have cH := hcb k hlt
              have hUk := hU k hlt
              obtain ⟨x, hx⟩ : ∃ x, x = rn.getD k [] := ⟨_, rfl⟩
              obtain ⟨u, hu⟩ : ∃ u, u = U k := ⟨_, rfl⟩
              rw [← hu] at cH hUk
              rw [← hx] at hUk
              obtain ⟨ax, bx, ox, cx, hux, hmx, hxx, hcx⟩ := hUk
              obtain ⟨p, hp⟩ : ∃ p, p = x.length := ⟨_, rfl⟩
              rw [← hp] at hux hmx hxx hcx
              rw [hux] at cH
              unfold maxLen at hmx
              have HP := Lib.hid hp
              have HX := Lib.hid hx
              clear hx hu hux hp hcb hU
              have HC := Lib.hid (fun z => (wideAny rt r1 r3 (w.drewN z)).mono fun e w' (h : e = .returned (.int .i64 (widthOf rt)) ∧ w.drewN z = w') => (⟨h.1, 0, h.2.symm⟩ : e = .returned (.int .i64 (widthOf rt)) ∧ ∃ n, w' = (w.drewN z).drewN n))
              obtain ⟨W, hW⟩ : ∃ W, W = widthOf rt := ⟨_, rfl⟩
              rw [← hW] at HC hW0 hW1 HE2 HG
              have HW := Lib.hid hW
              rw [← hW]
              clear hW
              by_cases hl : (p : Int) = W
              · have hl1 : ((p : Int) != W) = false := by simp [hl]
                have HPW := Lib.hid hl
                clear hl
                go_wp2
                go_quiet ((go_at_call 66; exact quiet_drewN HC.out))
                go_wp2
                rw [World.drewN_drewN]
                go_loop [5] (fun j => ∃ l : Nat, l ≤ p ∧ j = .int .i64 l ∧ (x.take l).all (entryOk q) = true) (fun j => p - (intOf j).toNat)
                case atStart => exact ⟨0, Nat.zero_le _, rfl, rfl⟩
                case round =>
                  obtain ⟨l, hl, rfl, hgl⟩ := hrel
                  have HGL := Lib.hid hgl
                  clear hgl
                  by_cases hlp : l < p
                  · obtain rfl := (hxx (by omega)).1
                    have cY := hcx l hlp
                    obtain ⟨y, hy⟩ : ∃ y, y = x.getD l 0 := ⟨_, rfl⟩
                    rw [← hy] at cY
                    have HY := Lib.hid hy
                    clear hy hcx
                    by_cases ho : entryOk q y = true
                    · have hin : inB y 0 ((q : Int) - 1) = true := ho
                      have HA := Lib.hid (all_take_succ x 0 (entryOk q) l (by rw [← HP.out]; exact hlp) HGL.out (by rw [← HY.out]; exact ho))
                      clear ho
                      go_wp2_with (go_at_call 71; refine (inRange _ _ _ _).mono ?_; rintro e w' ⟨rfl, rfl⟩)
                      go_round
                      case rel => exact ⟨l + 1, by omega, by go_num, HA.out⟩
                      case measure => simp [intOf]; omega
                    · have hin : inB y 0 ((q : Int) - 1) = false := by simpa [entryOk] using ho
                      have HA := Lib.hid (show formB ⟨rt, rs, ra, rn⟩ = false by
                        rw [HE2.out]
                        refine all_false rn [] _ k (by rw [← HQ.out]; exact hlt) ?_
                        rw [← HX.out]
                        unfold rowOk
                        rw [all_false x 0 (entryOk q) l (by rw [← HP.out]; exact hlp) (by rw [← HY.out]; simpa using ho)]
                        simp)
                      clear ho
                      go_wp2_with (go_at_call 71; refine (inRange _ _ _ _).mono ?_; rintro e w' ⟨rfl, rfl⟩)
                      go_ret
                      exact ⟨by rw [HA.out]; rfl, _, rfl⟩
                  · have HA := Lib.hid (all_take_succ rn [] (rowOk W q) k (by rw [← HQ.out]; exact hlt) HG.out (by
                      rw [← HX.out]
                      unfold rowOk
                      rw [all_end x (entryOk q) l (by rw [← HP.out]; omega) HGL.out, ← HP.out, decide_eq_true HPW.out]
                      rfl))
                    clear hcx hxx
                    go_wp2
                    go_roundw
                    case rel => exact ⟨k + 1, _, by omega, by go_num, HA.out, rfl⟩
                    case measure => simp [intOf]; omega
              · have hl1 : ((p : Int) != W) = true := by rw [bne_iff_ne]; exact hl
                have HS := Lib.hid (show formB ⟨rt, rs, ra, rn⟩ = false by
                  rw [HE2.out]
                  refine all_false rn [] _ k (by rw [← HQ.out]; exact hlt) ?_
                  rw [← HX.out]
                  unfold rowOk
                  rw [← HP.out, decide_eq_false hl]
                  rfl)
                clear hl hcx hxx
                go_wp2
                go_quiet ((go_at_call 66; exact quiet_drewN HC.out))
                go_wp2
                go_ret
                exact ⟨by rw [HS.out]; rfl, _, World.drewN_drewN ..⟩
            · have HA := Lib.hid (show formB ⟨rt, rs, ra, rn⟩ = true by rw [HE2.out]; exact all_end rn _ k (by rw [← HQ.out]; omega) HG.out)
              clear hcb hU
              go_wp2
              go_ret
              exact ⟨by rw [HA.out]; rfl, _, rfl⟩
        · have HE := Lib.hid (show formB ⟨rt, rs, ra, rn⟩ = false by rw [HF.out, HH.out]; simp [g4])
          have d4 : ((q : Int) != (n : Int)) = true := by rw [bne_iff_ne]; exact g4
          clear HF HH g3 g4 HN HQ hU hcb
          go_enter Try.func60, Try.ntmps60
          go_wp2_with (go_at_call 71; refine (inRange _ _ _ _).mono ?_; rintro e w' ⟨rfl, rfl⟩)
          go_ret
          exact ⟨by rw [HE.out]; rfl, 0, rfl⟩
      · have HE := Lib.hid (show formB ⟨rt, rs, ra, rn⟩ = false by rw [HF.out, HH.out]; simp [inB, g3])
        have e3 : inB rs 0 ((n : Int) - 1) = false := by simp [inB]; omega
        clear HF HH g3 HN HQ hU hcb
        go_enter Try.func60, Try.ntmps60
        go_wp2_with (go_at_call 71; refine (inRange _ _ _ _).mono ?_; rintro e w' ⟨rfl, rfl⟩)
        go_ret
        exact ⟨by rw [HE.out]; rfl, 0, rfl⟩
    · have HE := Lib.hid (show formB ⟨rt, rs, ra, rn⟩ = false by rw [HF.out, HH.out]; simp [g2])
      have d5 : decide ((n : Int) < 1) = true := by simp; omega
      clear HF HH g2 HN HQ hU hcb
      go_enter Try.func60, Try.ntmps60
      go_wp2_with (go_at_call 71; refine (inRange _ _ _ _).mono ?_; rintro e w' ⟨rfl, rfl⟩)
      go_ret
      exact ⟨by rw [HE.out]; rfl, 0, rfl⟩
  · have e1 : inB rt 1 3 = false := by simp [inB]; omega
    have HE := Lib.hid (show formB ⟨rt, rs, ra, rn⟩ = false by rw [HF.out, HH.out, e1]; simp)
    clear HF HH g1 HN HQ hU hcb
    go_enter Try.func60, Try.ntmps60
    go_wp2_with (go_at_call 71; refine (inRange _ _ _ _).mono ?_; rintro e w' ⟨rfl, rfl⟩)
    go_ret
    exact ⟨by rw [HE.out]; rfl, 0, rfl⟩

/-- At block bp lies a relation's struct, which reads as r. -/
def RelPtr (w : World) (B bp : Nat) (r : R) : Prop :=
  ∃ va vn, w.cell? ⟨bp, 0, none⟩ = some (.int .i64 r.tapes) ∧ w.cell? ⟨bp, 1, none⟩ = some (.int .i64 r.start) ∧ w.cell? ⟨bp, 2, none⟩ = some va ∧ w.cell? ⟨bp, 3, none⟩ = some vn ∧ Bools w B va r.accept ∧ IntRows w B vn r.next

theorem RelPtr.drewN {w : World} {B bp : Nat} {r : R} (h : RelPtr w B bp r) (m : Nat) : RelPtr (w.drewN m) B bp r := h

theorem RelPtr.below {w w' : World} {B B' bp : Nat} {r : R} (h : RelPtr w B bp r) (hb : Below B' w w') (hB : B ≤ B') (hp : bp < B') : RelPtr w' B bp r := by
  obtain ⟨va, vn, c0, c1, c2, c3, ha, hn⟩ := h
  refine ⟨va, vn, ?_, ?_, ?_, ?_, ha.below hb hB, hn.below hb hB⟩
  · rw [hb.cell (p := ⟨bp, 0, none⟩) hp]; exact c0
  · rw [hb.cell (p := ⟨bp, 1, none⟩) hp]; exact c1
  · rw [hb.cell (p := ⟨bp, 2, none⟩) hp]; exact c2
  · rw [hb.cell (p := ⟨bp, 3, none⟩) hp]; exact c3

theorem RelPtr.boxed {w : World} {B : Nat} {r : R} {va vn : Value} (ha : Bools w B va r.accept) (hn : IntRows w B vn r.next) (hB : B ≤ w.heap.size) (t : TypeId) :
    RelPtr (w.alloc (.cells #[.int .i64 r.tapes, .int .i64 r.start, va, vn] t)) B w.heap.size r :=
  ⟨va, vn, World.cell?_alloc_mark .., World.cell?_alloc_mark .., World.cell?_alloc_mark .., World.cell?_alloc_mark ..,
    ha.below ((Below.refl _ _).alloc (Nat.le_refl _) _) hB, hn.below ((Below.refl _ _).alloc (Nat.le_refl _) _) hB⟩

theorem specForm (r : R) (bp : Nat) (w : World) (B : Nat) (h : RelPtr w B bp r) :
    Calls Try.prog 60 #[.pointer (some ⟨bp, 0, none⟩)] w fun e w' => e = .returned (.bool (formB r)) ∧ ∃ m, w' = w.drewN m := by
  obtain ⟨va, vn, c0, c1, c2, c3, ⟨aa, ba, oa, ca, rfl, hma, -, -⟩, ⟨U, ⟨ab, bb, ob, cb, rfl, hmb, hbb, hcb⟩, hU⟩⟩ := h
  exact specForm_core r.tapes r.start r.accept r.next _ _ (Lib.hid rfl) (Lib.hid rfl) bp w B aa ab ca bb ob cb U c0 c1 c2 c3 hma hmb (fun h => (hbb h).1) hcb hU

def okB (r : R) : Bool := decide ((r.accept.length : Int) ≤ 150) && formB r

set_option maxHeartbeats 400000 in
theorem specOk (r : R) (bp : Nat) (w : World) (B : Nat) (h : RelPtr w B bp r) :
    Calls Try.prog 41 #[.pointer (some ⟨bp, 0, none⟩)] w fun e w' => e = .returned (.bool (okB r)) ∧ ∃ m, w' = w.drewN m := by
  have HC := Lib.hid (specForm r bp w B h)
  obtain ⟨va, vn, -, -, c2, -, ⟨aa, ba, oa, ca, rfl, hma, -, -⟩, -⟩ := h
  unfold maxLen at hma
  obtain ⟨n, hn⟩ : ∃ n, n = r.accept.length := ⟨_, rfl⟩
  rw [← hn] at c2 hma
  have HN := Lib.hid hn
  clear hn
  by_cases hl : (n : Int) ≤ 150
  · have E := Lib.hid (show okB r = formB r by unfold okB; rw [← HN.out, decide_eq_true hl]; rfl)
    have d1 : decide ((n : Int) ≤ 150) = true := by simpa using hl
    obtain ⟨F, hF⟩ : ∃ F, F = formB r := ⟨_, rfl⟩
    rw [← hF] at HC E
    clear hF
    go_enter Try.func41, Try.ntmps41
    go_wp2_with (go_at_call 60; refine (HC.out).mono ?_; rintro e w' ⟨rfl, n1, rfl⟩)
    go_ret
    exact ⟨by rw [E.out]; rfl, _, rfl⟩
  · have E := Lib.hid (show okB r = false by unfold okB; rw [← HN.out, decide_eq_false hl]; rfl)
    have d1 : decide ((n : Int) ≤ 150) = false := by simpa using hl
    go_enter Try.func41, Try.ntmps41
    go_wp2_with fail
    go_ret
    exact ⟨by rw [E.out]; rfl, 0, rfl⟩

end Go.Proofs.Ytjplmmokbkkclaa.Valid
/- What the model's WordsOf answers: a row of its own, and a code.
   Conditions: the columns are read as XMem's text says. -/
namespace Go.Proofs.Ytjplmmokbkkclaa.SpecWords
open Go.RowKit Mem Copy Rel Strs Words ColMath Columns TupMath SpecTuple MarkT MarkRow

def inOk (t : Int) (cs : List Int) : Bool := inB t 1 3 && decide (cs.length ≤ 40) && cs.all fun c => inB c 0 (widthOf t - 1)
def wordsC (t : Int) (cs : List Int) : Int := if inOk t cs = true then (if rightB t.toNat cs = true then 0 else 4) else 2
def wordsL (t : Int) (cs : List Int) : List ByteArray := if inOk t cs = true ∧ rightB t.toNat cs = true then (List.range t.toNat).map fun u => strOfNums (wd cs u) else []

theorem out_C {t : Int} {cs : List Int} (h : inOk t cs = false) : wordsC t cs = 2 := by simp [wordsC, h]
theorem out_L {t : Int} {cs : List Int} (h : inOk t cs = false) : wordsL t cs = [] := by simp [wordsL, h]
theorem bad_C {t : Int} {cs : List Int} (h : inOk t cs = true) (h2 : rightB t.toNat cs = false) : wordsC t cs = 4 := by simp [wordsC, h, h2]
theorem bad_L {t : Int} {cs : List Int} (h2 : rightB t.toNat cs = false) : wordsL t cs = [] := by simp [wordsL, h2]
theorem yes_C {t : Int} {cs : List Int} (h : inOk t cs = true) (h2 : rightB t.toNat cs = true) : wordsC t cs = 0 := by simp [wordsC, h, h2]
theorem yes_L {t : Int} {cs : List Int} (h : inOk t cs = true) (h2 : rightB t.toNat cs = true) : wordsL t cs = (List.range t.toNat).map fun u => strOfNums (wd cs u) := by simp [wordsL, h, h2]

/-- What both hand back: a row of texts of their own. -/
def FreshS (base : Nat) (W : World) (v : Value) (ss : List ByteArray) : Prop := Row W base 9 v ss.length fun i => .string (ss.getD i ByteArray.empty)

theorem freshS_none (W : World) (base : Nat) (a : Option Addr) (cap : Nat) : FreshS base W (.slice a 0 cap) [] := ⟨_, _, rfl, fun h => absurd h (Nat.lt_irrefl 0)⟩
theorem freshS_row {W : World} {N n : Nat} {cs : List Int} (h : W.rowIs N 9 n (fun u => .string (strOfNums (wd cs u)))) : FreshS N W (.slice (some ⟨N, 0, none⟩) n n) ((List.range n).map fun u => strOfNums (wd cs u)) := by
  have e : ((List.range n).map fun u => strOfNums (wd cs u)).length = n := by simp
  unfold FreshS
  rw [e]
  exact Row.of_row (h.congr fun i hi => by simp [List.getD, hi])

theorem inOk_long {t : Int} {cs : List Int} (h : ¬ cs.length ≤ 40) : inOk t cs = false := by simp [inOk, h]
theorem inOk_t {t : Int} {cs : List Int} (h : inB t 1 3 = false) : inOk t cs = false := by simp [inOk, h]
theorem inOk_c {t : Int} {cs : List Int} {k : Nat} (hk : k < cs.length) (h : inB (cs.getD k 0) 0 (widthOf t - 1) = false) : inOk t cs = false := by
  unfold inOk; rw [all_false cs 0 _ k hk h, Bool.and_false]
theorem inOk_yes {t : Int} {cs : List Int} (h1 : inB t 1 3 = true) (h2 : cs.length ≤ 40) (h3 : cs.all (fun c => inB c 0 (widthOf t - 1)) = true) : inOk t cs = true := by
  unfold inOk; rw [h1, h3]; simp [h2]

theorem quiet_of {P : Program} {f : FuncId} {args : Array Value} {v : Value} (W : World) (h : ∀ W, Calls P f args W fun e w' => e = .returned v ∧ W = w') :
    ∀ q, Calls P f args (W.drewN q) fun e w' => e = .returned v ∧ ∃ n, w' = (W.drewN q).drewN n :=
  fun q => (h _).mono fun _ _ ⟨he, hw⟩ => ⟨he, 0, by rw [← hw]; rfl⟩

end Go.Proofs.Ytjplmmokbkkclaa.SpecWords
/- The state of a law's walk over a list of texts that is answered, beside what the law's arguments are: what is kept when a part of it is marked.
   Conditions: stated at each theorem. -/
namespace Go.Proofs.Ytjplmmokbkkclaa.StrKit
set_option linter.unusedVariables false
set_option linter.unusedSimpArgs false
open Go.RowKit Mem Copy Rel Strs Words Columns MarkT MarkRow MarkRows MarkRel MarkOf MarkStrs SpecWords

/-- What is kept by all that is laid behind block Lo. -/
def Keeps (Lo : Nat) (E : World → Prop) : Prop := ∀ W W', E W → Below Lo W W' → E W'

/-- Texts that lie below block N. -/
structure OldS (N : Nat) (W : World) (v : Value) (ss : List ByteArray) : Prop where
  strs : StrsAt W N v ss
  le : N ≤ W.heap.size
theorem OldS.low {N : Nat} {W W' : World} {v : Value} {ss : List ByteArray} (h : OldS N W v ss) (hb : Below N W W') : OldS N W' v ss := ⟨h.strs.below hb (Nat.le_refl _), Nat.le_trans h.le hb.size⟩
theorem freshS_old {base : Nat} {W : World} {v : Value} {ss : List ByteArray} (h : FreshS base W v ss) (h3 : ss.length ≤ 3) (hs : ∀ i, (ss.getD i ByteArray.empty).size ≤ maxLen) : OldS W.heap.size W v ss :=
  ⟨⟨Row.reads h (by unfold maxLen; omega), fun i _ => hs i⟩, Nat.le_refl _⟩
theorem FreshS.row {base : Nat} {W : World} {v : Value} {ss : List ByteArray} (h : FreshS base W v ss) : Row W base 9 v ss.length (fun i => .string (ss.getD i ByteArray.empty)) := h
theorem Row.strs {lo : Nat} {W : World} {v : Value} {ss : List ByteArray} (h : Row W lo 9 v ss.length (fun i => .string (ss.getD i ByteArray.empty))) (h3 : ss.length ≤ 3) (hs : ∀ i, (ss.getD i ByteArray.empty).size ≤ maxLen) : StrsAt W W.heap.size v ss :=
  ⟨h.reads (by unfold maxLen; omega), fun i _ => hs i⟩
theorem Row.ge {w : World} {lo : Nat} {t : TypeId} {v : Value} {n : Nat} {f : Nat → Value} (h : Row w lo t v n f) (hn : 0 < n) : ∀ k, v.ownBlock = some k → lo ≤ k := by
  obtain ⟨a, cap, rfl, h⟩ := h
  obtain ⟨g, m, F, rfl, hl, -⟩ := h hn
  intro k hk
  cases hk; exact hl

/-- The law's state: what its arguments are (E), the model's texts, the program's texts. -/
structure St (w : World) (Lo : Nat) (E : World → Prop) (N : Nat) (vw : Value) (L : List ByteArray) (lo : Nat) (vg : Value) (f : Nat → Value) (W : World) : Prop where
  base : Below w.heap.size w W
  ext : E W
  old : OldS N W vw L
  new : Row W lo 9 vg L.length f
  hLo : Lo ≤ N
  hwL : w.heap.size ≤ Lo
  hNl : N ≤ lo
  hl : lo ≤ W.heap.size
section
variable {w : World} {Lo : Nat} {E : World → Prop} {N : Nat} {vw : Value} {L : List ByteArray} {lo : Nat} {vg : Value} {f : Nat → Value} {W W' : World}
theorem St.step (hE : Keeps Lo E) (h : St w Lo E N vw L lo vg f W) (hb : Below W.heap.size W W') : St w Lo E N vw L lo vg f W' :=
  ⟨base_step h.base hb, hE _ _ h.ext (hb.mono (by have := h.hl; have := h.hNl; have := h.hLo; omega)), h.old.low (hb.mono h.old.le), h.new.below hb, h.hLo, h.hwL, h.hNl, Nat.le_trans h.hl hb.size⟩
theorem St.drewN (hE : Keeps Lo E) (h : St w Lo E N vw L lo vg f W) (m : Nat) : St w Lo E N vw L lo vg f (W.drewN m) := h.step hE (below_drewN (Below.refl _ _) m)
theorem St.drew (hE : Keeps Lo E) (h : St w Lo E N vw L lo vg f W) : St w Lo E N vw L lo vg f W.drew := h.step hE ((Below.refl _ _).drew)
/-- What lies between the two answers is marked. -/
theorem St.markX (hE : Keeps Lo E) {S : Nat → Prop} (h : St w Lo E N vw L lo vg f W) (ho : Only S W W') (hS : ∀ b, S b → N ≤ b ∧ b < lo) : St w Lo E N vw L lo vg f W' :=
  have hbN : Below N W W' := ho.below (fun b hb => (hS b hb).1) h.old.le
  ⟨h.base.trans (hbN.mono (by have := h.hLo; have := h.hwL; omega)), hE _ _ h.ext (hbN.mono h.hLo), h.old.low hbN,
   Row.only h.new ho fun hn k hk e => by have := Row.ge h.new hn k hk; have := hS k e; omega, h.hLo, h.hwL, h.hNl, Nat.le_trans h.hl ho.size⟩
/-- The program's texts are marked. -/
theorem St.markG (hE : Keeps Lo E) {f' : Nat → Value} (h : St w Lo E N vw L lo vg f W) (hg : (0 < L.length ∧ W.grownBy W' vg.ownBlock) ∨ W = W') (hr : Row W' lo 9 vg L.length f') : St w Lo E N vw L lo vg f' W' := by
  have hbN : Below N W W' := by
    rcases hg with ⟨h0, hg⟩ | rfl
    · exact below_grown (Below.refl _ _) hg h.old.le fun k hk => by have := Row.ge h.new h0 k hk; have := h.hNl; omega
    · exact Below.refl _ _
  exact ⟨h.base.trans (hbN.mono (by have := h.hLo; have := h.hwL; omega)), hE _ _ h.ext (hbN.mono h.hLo), h.old.low hbN, hr, h.hLo, h.hwL, h.hNl, Nat.le_trans h.hl hbN.size⟩
end

/-- Marking no texts changes nothing. -/
theorem mark0 (a : Option Addr) (cap : Nat) (k : Nat) (w : World) : Calls Try.prog 15 #[.slice a 0 cap, .int .i64 k] w fun e w' => e = .returned (.int .i64 k) ∧ w = w' := by
  go_enter Try.func15, Try.ntmps15
  go_wp2
  refine wp_loop_rounds 1 ?_
  rw [rounds_succ]
  go_wp2
  go_ret
  exact ⟨rfl, rfl⟩
theorem markS' (v : Value) (n : Nat) (f : Nat → Value) (k : Nat) (lo : Nat) (w : World) (hr : Row w lo 9 v n f) (hn : n ≤ 1048576) (h1 : 1 ≤ k) (hk : k ≤ 1048576) :
    Calls Try.prog 15 #[v, .int .i64 k] w fun e w' => e = .returned (.int .i64 ((k + n : Nat) : Int)) ∧ Row w' lo 9 v n (fun i => .string (markS (k + i))) ∧ ((0 < n ∧ w.grownBy w' v.ownBlock) ∨ w = w') := by
  by_cases h0 : 0 < n
  · exact (markStrs v n f k lo w hr hn h1 hk).mono fun e w' ⟨h1, h2, h3⟩ => ⟨h1, h2, .inl ⟨h0, h3⟩⟩
  · obtain rfl : n = 0 := by omega
    obtain ⟨a, cap, rfl, -⟩ := hr
    exact (mark0 a cap k w).mono fun e w' ⟨h1, h2⟩ => ⟨by rw [h1]; rfl, ⟨a, cap, rfl, fun h => absurd h (Nat.lt_irrefl 0)⟩, .inr h2⟩

/-- A copy of a relation behind N, and the box in which it lies. -/
structure Cp (r : R) (M X : Nat) (W : World) : Prop where
  own : Rel.Own W M r
  xb : Kept W X (.int .i64 r.tapes) (.int .i64 r.start) (.slice (some ⟨M, 0, none⟩) r.accept.length r.accept.length) (.slice (some ⟨M + 1, 0, none⟩) r.next.length r.next.length)
  hX : M + 2 + r.next.length ≤ X
theorem Cp.step {r : R} {M X : Nat} {W W' : World} (h : Cp r M X W) (hb : Below W.heap.size W W') : Cp r M X W' := ⟨h.own.step hb, h.xb.step hb, h.hX⟩
theorem Cp.drew {r : R} {M X : Nat} {W : World} (h : Cp r M X W) : Cp r M X W.drew := h.step ((Below.refl _ _).drew)
theorem Cp.drewN {r : R} {M X : Nat} {W : World} (h : Cp r M X W) (m : Nat) : Cp r M X (W.drewN m) := h.step (below_drewN (Below.refl _ _) m)
theorem Cp.new {r : R} {M : Nat} {W : World} (h : Rel.Own W M r) (t : TypeId) : Cp r M W.heap.size (W.alloc (.cells #[.int .i64 r.tapes, .int .i64 r.start, .slice (some ⟨M, 0, none⟩) r.accept.length r.accept.length, .slice (some ⟨M + 1, 0, none⟩) r.next.length r.next.length] t)) :=
  ⟨h.box _, Kept.new _ _ _ _ _ _, h.top⟩
theorem copyOwn' (v : Value) (r : R) (W : World) (B : Nat) (hr : RelAt W B v r) (hB : B ≤ W.heap.size) (hs : Short r) :
    Calls Try.prog 10 #[v] W fun e w' => ∃ M, e = .returned (freshV M r) ∧ Rel.Own w' M r ∧ Below W.heap.size W w' ∧ W.heap.size ≤ M :=
  (copyRel v r W B hr hB hs).mono fun _ _ ⟨M, he, h1, h2, hf, hb⟩ => ⟨M, he, ⟨hf, h2⟩, hb, h1⟩
end Go.Proofs.Ytjplmmokbkkclaa.StrKit
/- What the model's functions on classes of states hand back.
   Conditions: the relation's rows have one length, and lead to states; the classes are read as XMem's text says. -/
namespace Go.Proofs.Ytjplmmokbkkclaa.SpecFiner
set_option linter.unusedVariables false
set_option linter.unusedSimpArgs false
open Go.RowKit Mem Copy Rel Valid Heap TidyMath TidyClass TidyAuto

/-- A list of numbers below 2^63 as Go has it. -/
def ofN (l : List Nat) : List Int := l.map Int.ofNat
theorem ofN_length (l : List Nat) : (ofN l).length = l.length := by simp [ofN]
theorem ofN_get (l : List Nat) {i : Nat} (h : i < l.length) : (ofN l).getD i 0 = ((l.getD i 0 : Nat) : Int) := by simp [ofN, List.getD, h]
def tabN (n : Nat) (c : Nat → Nat) : List Int := ofN ((List.range n).map c)
theorem tabN_length (n : Nat) (c : Nat → Nat) : (tabN n c).length = n := by simp [tabN, ofN]
theorem tabN_get (n : Nat) (c : Nat → Nat) {i : Nat} (h : i < n) : (tabN n c).getD i 0 = ((c i : Nat) : Int) := by simp [tabN, ofN, List.getD, h]

theorem map_take_succ {α β : Type} (f : α → β) (l : List α) (d : α) (k : Nat) (h : k < l.length) : (l.take (k + 1)).map f = (l.take k).map f ++ [f (l.getD k d)] := by
  rw [take_succ_getD l d k h, List.map_append]; rfl
theorem map_differ {f : Nat → Nat} {l m : List Nat} {k : Nat} (hl : k < l.length) (hm : k < m.length) (h : f (l.getD k 0) ≠ f (m.getD k 0)) : ¬ l.map f = m.map f := by
  intro e
  have := congrArg (fun x => x[k]?) e
  simp [hl, hm] at this
  simp [List.getD, hl, hm] at h
  exact h this

set_option maxHeartbeats 2000000 in
theorem alike (nx : List (List Nat)) (n : Nat) (c : Nat → Nat) (a b : Nat) (bp : Nat) (w : World) (B : Nat) (r : R) (h : RelPtr w B bp r) (hnext : r.next = nx.map ofN) (vc : Value) (hc : Ints w B vc (tabN n c))
    (ha : a < nx.length) (hb : b < nx.length) (hlen : (nx.getD a []).length = (nx.getD b []).length) (hW : (nx.getD a []).length ≤ 26) (hla : ∀ k, k < (nx.getD a []).length → (nx.getD a []).getD k 0 < n) (hlb : ∀ k, k < (nx.getD b []).length → (nx.getD b []).getD k 0 < n) :
    Calls Try.prog 68 #[.pointer (some ⟨bp, 0, none⟩), vc, .int .i64 a, .int .i64 b] w fun e w' => e = .returned (.bool (decide ((nx.getD a []).map c = (nx.getD b []).map c))) ∧ ∃ m, w' = w.drewN m := by
  obtain ⟨va, vn, c0, c1, c2, c3, -, ⟨U, ⟨ab, bb, ob, cb, rfl, hmb, hbb, hcb⟩, hU⟩⟩ := h
  rw [hnext] at hmb hbb hcb hU c3
  simp only [List.length_map] at hmb hbb hcb hU c3
  obtain ⟨rfl, -⟩ := hbb (by omega)
  have cA := hcb a ha
  have cB := hcb b hb
  have uA := hU a ha
  have uB := hU b hb
  have eA : (nx.map ofN).getD a [] = ofN (nx.getD a []) := by simp [List.getD, ha]
  have eB : (nx.map ofN).getD b [] = ofN (nx.getD b []) := by simp [List.getD, hb]
  rw [eA] at uA
  rw [eB] at uB
  obtain ⟨xa, hxa⟩ : ∃ xa, xa = nx.getD a [] := ⟨_, rfl⟩
  obtain ⟨xb, hxb⟩ : ∃ xb, xb = nx.getD b [] := ⟨_, rfl⟩
  rw [← hxa, ← hxb] at hlen
  rw [← hxa] at uA hla hW ⊢
  rw [← hxb] at uB hlb ⊢
  obtain ⟨aa, ba, oa, ca, hua, hma, haa, hca⟩ := uA
  obtain ⟨ab', bb', ob', cb', hub, hmb', hbb', hcb'⟩ := uB
  obtain ⟨ac, bc, oc, cc, rfl, hmc, hcc, hcv⟩ := hc
  rw [ofN_length] at hua hma haa hca hub hmb' hbb' hcb'
  rw [tabN_length] at hmc hcc hcv ⊢
  obtain ⟨W, hWW⟩ : ∃ W, W = xa.length := ⟨_, rfl⟩
  rw [← hlen, ← hWW] at hub hmb' hbb' hcb' hlb
  rw [← hWW] at hua hma haa hca hla hW hlen
  rw [hua] at cA
  rw [hub] at cB
  obtain ⟨q, hq⟩ : ∃ q, q = nx.length := ⟨_, rfl⟩
  rw [← hq] at c3 hmb ha hb
  unfold maxLen at hmb hmc
  have HWA := Lib.hid hWW
  have HWB := Lib.hid hlen
  clear hU hcb hua hub eA eB hxa hxb hq hWW hlen hma hmb' c0 c1 c2 hnext hbb
  obtain ⟨R, hR⟩ : ∃ R : Bool, R = decide (xa.map c = xb.map c) := ⟨_, rfl⟩
  rw [← hR]
  have HR := Lib.hid hR
  clear hR
  go_enter Try.func68, Try.ntmps68
  go_wp2
  go_loopw [9] (fun i wr => ∃ k m : Nat, k ≤ W ∧ i = .int .i64 k ∧ wr = w.drewN m ∧ (xa.take k).map c = (xb.take k).map c) (fun i _ => W - (intOf i).toNat)
  case atStart => exact ⟨0, 0, Nat.zero_le _, rfl, rfl, rfl⟩
  case round =>
    obtain ⟨k, m, hk, rfl, rfl, hg⟩ := hrel
    have HG := Lib.hid hg
    clear hg
    by_cases hlt : k < W
    · obtain rfl := (haa (by omega)).1
      obtain rfl := (hbb' (by omega)).1
      have rA := hca k hlt
      have rB := hcb' k hlt
      have la := hla k hlt
      have lb := hlb k hlt
      have hlA := Lib.hid (show k < xa.length by rw [← HWA.out]; exact hlt)
      have hlB := Lib.hid (show k < xb.length by rw [← HWB.out]; exact hlt)
      rw [ofN_get xa hlA.out] at rA
      rw [ofN_get xb hlB.out] at rB
      have HTA := Lib.hid (map_take_succ c xa 0 k hlA.out)
      have HTB := Lib.hid (map_take_succ c xb 0 k hlB.out)
      have HDF := Lib.hid (map_differ (f := c) hlA.out hlB.out)
      obtain ⟨x, hx⟩ : ∃ x, x = xa.getD k 0 := ⟨_, rfl⟩
      obtain ⟨y, hy⟩ : ∃ y, y = xb.getD k 0 := ⟨_, rfl⟩
      rw [← hx] at rA la HTA HDF
      rw [← hy] at rB lb HTB HDF
      obtain rfl := (hcc (by omega)).1
      have vA := hcv x la
      have vB := hcv y lb
      rw [tabN_get n c la] at vA
      rw [tabN_get n c lb] at vB
      obtain ⟨p, hp⟩ : ∃ p, p = c x := ⟨_, rfl⟩
      obtain ⟨s, hs⟩ : ∃ s, s = c y := ⟨_, rfl⟩
      rw [← hp] at vA HTA HDF
      rw [← hs] at vB HTB HDF
      have dA : w.cell? ⟨bb, ob + a, none⟩ = some (.slice (some ⟨ba, oa, none⟩) W ca) := cA
      clear hx hy hp hs hca hcb' hcv hla hlb haa hbb' hcc
      by_cases hps : p = s
      · subst hps
        have hne : (((p : Nat) : Int) != (p : Int)) = false := by simp
        go_wp2_with fail
        go_quiet (fail)
        go_wp2_with fail
        go_roundw
        case rel => exact ⟨k + 1, _, hlt, by go_num, rfl, by rw [HTA.out, HTB.out, HG.out]⟩
        case measure => simp [intOf]; omega
      · have hne : (((p : Nat) : Int) != (s : Int)) = true := by simp; omega
        have HRF := Lib.hid (show R = false by rw [HR.out]; exact decide_eq_false (HDF.out hps))
        go_wp2_with fail
        go_quiet (fail)
        go_wp2_with fail
        go_ret
        exact ⟨by rw [HRF.out]; rfl, _, World.drewN_drewN _ _ _⟩
    · have HRT := Lib.hid (show R = true by
        have h1 := HG.out
        rw [List.take_of_length_le (by have := HWA.out; omega), List.take_of_length_le (by have := HWA.out; have := HWB.out; omega)] at h1
        rw [HR.out]; exact decide_eq_true h1)
      clear hca hcb' hcv hla hlb haa hbb' hcc
      go_wp2
      go_ret
      exact ⟨by rw [HRT.out]; rfl, _, rfl⟩

/-- What is asked of the relation's rows. -/
def RowsOk (nx : List (List Nat)) (n W : Nat) : Prop := nx.length = n ∧ ∀ s, s < n → (nx.getD s []).length = W ∧ ∀ k, k < W → (nx.getD s []).getD k 0 < n
def auOf (nx : List (List Nat)) (n : Nat) (acc : Nat → Bool) : Au := ⟨n, acc, fun s => nx.getD s []⟩
abbrev key (nx : List (List Nat)) (c : Nat → Nat) (s : Nat) : Nat × List Nat := (c s, (nx.getD s []).map c)

theorem fin_T {k : Nat} {f : Nat → Int} {T : Nat → Int} {o : Int} (hT : ∀ i, T i = if i = k then o else if i = k then -1 else if i < k then f i else 0) (ho : o = f k) (i : Nat) : T i = if i < k + 1 then f i else 0 := by
  rw [hT i]
  by_cases e : i = k
  · subst e; simp [ho]
  · by_cases h : i < k
    · have : i < k + 1 := by omega
      simp [e, h, this]
    · have : ¬ i < k + 1 := by omega
      simp [e, h, this]

end Go.Proofs.Ytjplmmokbkkclaa.SpecFiner
