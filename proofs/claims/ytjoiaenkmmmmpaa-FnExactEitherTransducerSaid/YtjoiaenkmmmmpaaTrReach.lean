
/- States that are reached by edges: what a pass over the edges does, what the passes end in, and the program's function.
   Conditions: stated at each theorem. -/
import Derived.Test.YtjoiaenkmmmmpaaTurnImpl
namespace Go.Proofs.Ytjoiaenkmmmmpaa.TrReach
set_option linter.unusedVariables false
set_option linter.unusedSimpArgs false
open Go.RowKit Mem Copy Rel Heap MarkRow Edg EdgCopy EdgEq TrHeap TrLawKit TrValid TrImplValid TurnImpl

/-- An edge from a state that has been met to one that has not. -/
def hitS (s : List Bool) (e : E) : Bool := s.getD e.src.toNat false && !s.getD e.dst.toNat false
def hit1 (s : List Bool) (e : E) : List Bool := if hitS s e = true then s.set e.dst.toNat true else s
def pass (es : List E) (s : List Bool) : List Bool := es.foldl hit1 s
def flipD (e : E) : E := ⟨e.dst, e.src, e.inn, e.out⟩
def iter (es : List E) : Nat → List Bool → List Bool
  | 0, s => s
  | i + 1, s => pass es (iter es i s)
/-- What passes end in. -/
def Fix (es : List E) (s0 s : List Bool) : Prop := (∃ i, s = iter es i s0) ∧ pass es s = s
def Inside (n : Nat) (es : List E) : Prop := ∀ i, i < es.length → 0 ≤ (es.getD i noE).src ∧ (es.getD i noE).src < n ∧ 0 ≤ (es.getD i noE).dst ∧ (es.getD i noE).dst < n
/-- How many have not been met. -/
def lows (s : List Bool) : Nat := (s.map (!·)).count true

theorem hit1_length (s : List Bool) (e : E) : (hit1 s e).length = s.length := by unfold hit1; split <;> simp
theorem pass_length (es : List E) : ∀ s, (pass es s).length = s.length := by
  induction es with
  | nil => intro s; rfl
  | cons e r ih => intro s; show (pass r (hit1 s e)).length = _; rw [ih, hit1_length]
theorem iter_length (es : List E) (s : List Bool) : ∀ i, (iter es i s).length = s.length := by
  intro i
  induction i with
  | zero => rfl
  | succ i ih => show (pass es _).length = _; rw [pass_length, ih]
theorem iter_same {es : List E} {s : List Bool} {i : Nat} (h : pass es (iter es i s) = iter es i s) : ∀ k, iter es (i + k) s = iter es i s := by
  intro k
  induction k with
  | zero => rfl
  | succ k ih => show pass es (iter es (i + k) s) = _; rw [ih, h]
theorem fix_uniq {es : List E} {s0 s s' : List Bool} (h : Fix es s0 s) (h' : Fix es s0 s') : s = s' := by
  obtain ⟨⟨i, rfl⟩, h⟩ := h
  obtain ⟨⟨j, rfl⟩, h'⟩ := h'
  rcases Nat.le_total i j with hij | hij
  · obtain ⟨k, rfl⟩ := Nat.le.dest hij
    exact (iter_same h k).symm
  · obtain ⟨k, rfl⟩ := Nat.le.dest hij
    exact iter_same h' k
theorem fix_length {es : List E} {s0 s : List Bool} (h : Fix es s0 s) : s.length = s0.length := by
  obtain ⟨⟨i, rfl⟩, -⟩ := h
  exact iter_length es s0 i
theorem pass_next (es : List E) (s : List Bool) (k : Nat) (h : k < es.length) : pass (es.take (k + 1)) s = hit1 (pass (es.take k) s) (es.getD k noE) := by
  unfold pass
  rw [take_succ_getD es noE k h, List.foldl_append]; rfl
theorem pass_all (es : List E) (s : List Bool) (k : Nat) (h : es.length ≤ k) : pass (es.take k) s = pass es s := by rw [List.take_of_length_le h]
theorem hit_yes {s : List Bool} {e : E} (h : hitS s e = true) : hit1 s e = s.set e.dst.toNat true := if_pos h
theorem hit_no {s : List Bool} {e : E} (h : hitS s e = false) : hit1 s e = s := if_neg (by rw [h]; exact Bool.false_ne_true)
theorem lows_set {s : List Bool} {j : Nat} (hj : j < s.length) (h : s.getD j false = false) : lows (s.set j true) < lows s := by
  unfold lows
  have hj' : j < (s.map (!·)).length := by rw [List.length_map]; exact hj
  have e : (s.set j true).map (!·) = (s.map (!·)).set j false := by rw [List.map_set]; rfl
  have hx : (s.map (!·))[j] = true := by
    rw [List.getElem_map]
    have : s[j] = false := by rw [← h]; simp [List.getD, hj]
    rw [this]; rfl
  rw [e, List.count_set hj', hx]
  have : 0 < (s.map (!·)).count true := List.count_pos_iff.2 (by rw [← hx]; exact List.getElem_mem hj')
  simp
  omega

/-- The same in memory. -/
def isLow : Option Value → Bool
  | some (.bool false) => true
  | _ => false
def lowsAt (W : World) (g n : Nat) : Nat := ((List.range n).map fun i => isLow (W.cell? ⟨g, i, none⟩)).count true
def flagOf : Value → Nat
  | .bool true => 1
  | _ => 0

/-- A set of states in a block of its own, and what it has been made from. -/
structure Sp (w : World) (B g n cap : Nat) (s : List Bool) (W : World) : Prop where
  lst : Lst W B 4 (.slice (some ⟨g, 0, none⟩) n cap) (s.map Value.bool)
  grow : w.grownBy W (some g)
  len : s.length = n
section
variable {w W W' : World} {B g n cap : Nat} {s : List Bool}
theorem Sp.lt (h : Sp w B g n cap s W) : g < W.heap.size := h.lst.lt rfl
theorem Sp.ge (h : Sp w B g n cap s W) : B ≤ g := h.lst.ge rfl
theorem Sp.below (h : Sp w B g n cap s W) (hB : B ≤ w.heap.size) : Below B w W := below_grown (Below.refl _ w) h.grow hB (fun k e => by cases e; exact h.ge)
theorem Sp.alloc (h : Sp w B g n cap s W) (o : Obj) : Sp w B g n cap s (W.alloc o) := ⟨h.lst.alloc o, grown_below h.grow ((Below.refl _ _).alloc (Nat.le_refl _) _), h.len⟩
theorem Sp.cell (h : Sp w B g n cap s W) {i : Nat} (hi : i < n) : W.cell? ⟨g, i, none⟩ = some (.bool (s.getD i false)) := by
  have hi' : i < s.length := by rw [h.len]; exact hi
  rw [h.lst.cellOf (i := i) (by rw [List.length_map]; exact hi'), List.getElem_map]
  simp [List.getD, hi']
theorem Sp.free (h : Sp w B g n cap s W) (i : Nat) : W.frozen? ⟨g, i, none⟩ = false := h.lst.free i
theorem Sp.set (h : Sp w B g n cap s W) {j : Nat} (hj : j < n) (b : Bool) : Sp w B g n cap (s.set j b) (W.setCell ⟨g, j, none⟩ (.bool b)) :=
  ⟨by have := h.lst.set (i := j) (by rw [List.length_map, h.len]; exact hj) (.bool b); rwa [← List.map_set] at this, grown_set h.grow _ _, by rw [List.length_set]; exact h.len⟩
theorem Sp.lows (h : Sp w B g n cap s W) : lowsAt W g n = TrReach.lows s := by
  unfold lowsAt TrReach.lows
  congr 1
  apply List.ext_getElem
  · rw [List.length_map, List.length_range, List.length_map, h.len]
  · intro i h1 h2
    rw [List.length_map, List.length_range] at h1
    rw [List.getElem_map, List.getElem_map, List.getElem_range, h.cell h1]
    have hi : i < s.length := by rw [h.len]; exact h1
    have e : s.getD i false = s[i] := by simp [List.getD, hi]
    rw [e]
    cases s[i] <;> rfl
end

theorem At4.grown {w w' : World} {g b o : Nat} {e : E} (h : At4 w b o e) (hg : w.grownBy w' (some g)) (hb : b < w.heap.size) (hne : b ≠ g) : At4 w' b o e := by
  have e1 : w'.heap[b]? = w.heap[b]? := hg.block b hb (fun h => by cases h; exact hne rfl)
  have e2 : ∀ i, w'.cell? ⟨b, i, none⟩ = w.cell? ⟨b, i, none⟩ := fun i => by unfold World.cell?; rw [e1]
  exact ⟨(e2 _).trans h.c0, (e2 _).trans h.c1, (e2 _).trans h.c2, (e2 _).trans h.c3⟩

set_option maxHeartbeats 4000000 in
theorem spread (es : List E) (ve : Value) (s0 : List Bool) (n g cap : Nat) (w : World) (B : Nat) (hes : Edges w w.heap.size ve es) (hne : 0 < es.length → ∀ b o l c, ve = .slice (some ⟨b, o, none⟩) l c → b ≠ g) (hs : Sp w B g n cap s0 w) (hin : Inside n es) (hq : es.length ≤ 1000) (hn : n ≤ 1000) :
    Calls Try.prog 88 #[.slice (some ⟨g, 0, none⟩) n cap, ve] w fun e w' => e = .returned (.tuple #[]) ∧ ∃ s, Fix es s0 s ∧ Sp w B g n cap s w' := by
  obtain ⟨ab, bb, ob, cb, rfl, -, hbb, hcb⟩ := hes
  obtain ⟨q, hqq⟩ : ∃ q, q = es.length := ⟨_, rfl⟩
  rw [← hqq] at hbb hcb hq ⊢
  have HQ := Lib.hid hqq
  have HC := Lib.hid hcb
  have HS0 := Lib.hid hs
  have HIN := Lib.hid hin
  have HNE := Lib.hid hne
  clear hqq hcb hs hin hne
  go_enter Try.func88, Try.ntmps88
  go_wp2
  go_loopw [4] (fun v4 wr => ∃ (c : Bool) (i : Nat), v4 = .bool c ∧ (c = false → pass es (iter es i s0) = iter es i s0) ∧ Sp w B g n cap (iter es i s0) wr) (fun v4 wr => lowsAt wr g n + flagOf v4)
  case atStart => exact ⟨true, 0, rfl, (fun h => by cases h), HS0.out⟩
  case round =>
    obtain ⟨c, i, rfl, hc, hsp⟩ := hrel
    obtain ⟨s, hsi⟩ : ∃ s, s = iter es i s0 := ⟨_, rfl⟩
    rw [← hsi] at hc hsp
    have HSI := Lib.hid hsi
    have HSP := Lib.hid hsp
    have HCC := Lib.hid hc
    clear hsi hsp hc HS0
    cases c with
    | false =>
      have HF := Lib.hid (HCC.out rfl)
      clear hbb HCC
      go_wp2
      go_end0
      exact ⟨rfl, s, ⟨⟨i, HSI.out⟩, HF.out⟩, HSP.out⟩
    | true =>
      obtain ⟨wo, rfl⟩ : ∃ wo : World, wo = wr := ⟨_, rfl⟩
      go_wp2
      go_loopw [4, 10] (fun v4 v10 wr => ∃ (c : Bool) (k : Nat), k ≤ q ∧ v4 = .bool c ∧ v10 = .int .i64 k ∧ (c = false → pass (es.take k) s = s) ∧ (c = true → lows (pass (es.take k) s) < lows s) ∧ Sp w B g n cap (pass (es.take k) s) wr) (fun _ v10 _ => q - (intOf v10).toNat)
      case atStart => exact ⟨false, 0, Nat.zero_le _, rfl, rfl, (fun _ => rfl), (fun h => by cases h), HSP.out⟩
      case round =>
        obtain ⟨c, k, hk, rfl, rfl, hc0, hc1, hsp⟩ := hrel
        obtain ⟨u, hu⟩ : ∃ u, u = pass (es.take k) s := ⟨_, rfl⟩
        rw [← hu] at hc0 hc1 hsp
        have HU := Lib.hid hu
        have HSU := Lib.hid hsp
        have HC0 := Lib.hid hc0
        have HC1 := Lib.hid hc1
        clear hu hc0 hc1 hsp
        by_cases hlt : k < q
        · obtain rfl := (hbb (by omega)).1
          have hbB := (hbb (by omega)).2
          have h4 := At4.grown (HC.out k hlt).1 HSU.out.grow hbB (HNE.out (by rw [← HQ.out]; omega) _ _ _ _ rfl)
          have hi4 := HIN.out k (by rw [← HQ.out]; exact hlt)
          have hnx := pass_next es s k (by rw [← HQ.out]; exact hlt)
          rw [← HU.out] at hnx
          have HNX := Lib.hid hnx
          clear hnx
          obtain ⟨x, hx⟩ : ∃ x, x = es.getD k noE := ⟨_, rfl⟩
          rw [← hx] at h4 hi4 HNX
          clear hbb hx
          obtain ⟨d0, d1, d2, d3⟩ := h4
          obtain ⟨xs, xd, xi, xo⟩ := x
          simp only at d0 d1 d2 d3 hi4
          obtain ⟨i0, i1, i2, i3⟩ := hi4
          obtain ⟨p, rfl⟩ := Int.eq_ofNat_of_zero_le i0
          obtain ⟨r, rfl⟩ := Int.eq_ofNat_of_zero_le i2
          have hp : p < n := by omega
          have hr : r < n := by omega
          have HSV := Lib.hid (HSU.out.alloc (boxE ⟨p, r, xi, xo⟩))
          have HH := Lib.hid (show hitS u ⟨p, r, xi, xo⟩ = (u.getD p false && !u.getD r false) from rfl)
          have e1 := HSU.out.cell hp
          have e2 := HSU.out.cell hr
          have e3 := HSU.out.free r
          have e4 := HSU.out.lt
          obtain ⟨y, hy⟩ : ∃ y, y = u.getD p false := ⟨_, rfl⟩
          obtain ⟨z, hz⟩ : ∃ z, z = u.getD r false := ⟨_, rfl⟩
          rw [← hy] at e1 HH
          rw [← hz] at e2 HH
          have HZ := Lib.hid hz
          clear hy hz
          have hlr : ∀ b o, b < wr.heap.size → (wr.alloc (boxE ⟨p, r, xi, xo⟩)).cell? ⟨b, o, none⟩ = wr.cell? ⟨b, o, none⟩ := fun b o hb => World.cell?_alloc_lt _ _ _ hb
          cases y <;> cases z
          case true.false =>
            have HB1 := Lib.hid (show pass (es.take (k + 1)) s = u.set r true by rw [HNX.out, hit_yes HH.out]; rfl)
            have HSW := Lib.hid ((HSU.out.set hr true).alloc (boxE ⟨p, r, xi, xo⟩))
            have HLO := Lib.hid (lows_set (s := u) (j := r) (by rw [HSU.out.len]; exact hr) HZ.out.symm)
            go_wp2
            go_roundw
            case rel =>
              refine ⟨true, k + 1, by omega, rfl, by go_num, (fun h => by cases h), (fun _ => ?_), by rw [HB1.out]; exact HSW.out⟩
              rw [HB1.out]
              cases c with
              | true => exact Nat.lt_trans HLO.out (HC1.out rfl)
              | false => have := HLO.out; have e := HC0.out rfl; subst e; exact this
            case measure => simp [intOf]; omega
          all_goals
            have HB1 := Lib.hid (show pass (es.take (k + 1)) s = u by rw [HNX.out, hit_no HH.out])
            go_wp2
            go_roundw
            case rel => exact ⟨c, k + 1, by omega, rfl, by go_num, by rw [HB1.out]; exact HC0.out, by rw [HB1.out]; exact HC1.out, by rw [HB1.out]; exact HSV.out⟩
            case measure => simp [intOf]; omega
        · have HALL := Lib.hid (show u = pass es s by rw [HU.out]; exact pass_all es s k (by rw [← HQ.out]; omega))
          go_wp2
          go_roundw
          case rel =>
            refine ⟨c, i + 1, rfl, (fun h => ?_), ?_⟩
            · have hp : pass es s = s := HALL.out.symm.trans (HC0.out h)
              show pass es (pass es (iter es i s0)) = pass es (iter es i s0)
              rw [← HSI.out, hp, hp]
            · show Sp w B g n cap (pass es (iter es i s0)) wr
              rw [← HSI.out, ← HALL.out]
              exact HSU.out
          case measure =>
            rw [HSU.out.lows, HSP.out.lows]
            cases c with
            | true => have := HC1.out rfl; simp [flagOf]; exact this
            | false => rw [HC0.out rfl]; simp [flagOf]
end Go.Proofs.Ytjoiaenkmmmmpaa.TrReach
