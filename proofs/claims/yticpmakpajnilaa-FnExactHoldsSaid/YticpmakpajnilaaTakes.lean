
/- Whether a relation takes a tuple: what the model's function answers.
   Conditions: the relation is valid, the tuple has as many words as it has tapes. -/
import Derived.Test.YticpmakpajnilaaSpecCols
import Derived.Test.YticpmakpajnilaaImplCols
import Derived.Test.YticpmakpajnilaaValid
import Derived.Deep.QuietTactic
import Derived.BigQuiet
namespace Go.Proofs.Yticpmakpajnilaa.Takes
open Go.RowKit Mem Copy Rel Strs WordMath Words ColMath Columns Valid SpecCols Numbers ImplCols

/-- What a valid relation's parts are. -/
structure Good (r : R) : Prop where
  t1 : 1 ≤ r.tapes
  t3 : r.tapes ≤ 3
  few : r.accept.length ≤ 150
  s0 : 0 ≤ r.start
  s1 : r.start < r.accept.length
  len : r.next.length = r.accept.length
  row : ∀ i, i < r.accept.length → ((r.next.getD i []).length : Int) = widthOf r.tapes
  cell : ∀ i j : Nat, i < r.accept.length → (j : Int) < widthOf r.tapes → 0 ≤ (r.next.getD i []).getD j 0 ∧ (r.next.getD i []).getD j 0 < r.accept.length

theorem good_of {r : R} (h : okB r = true) : Good r := by
  unfold okB formB headB inB at h
  simp only [Bool.and_eq_true, decide_eq_true_eq] at h
  obtain ⟨h0, ⟨⟨⟨⟨t1, t3⟩, n1⟩, s0, s1⟩, hl⟩, hr⟩ := h
  have rows : ∀ i, i < r.accept.length → rowOk (widthOf r.tapes) r.accept.length (r.next.getD i []) = true := fun i hi => by
    have e : r.next.getD i [] = r.next[i]'(by omega) := by simp [List.getD, (by omega : i < r.next.length)]
    rw [e]
    exact List.all_eq_true.1 hr _ (List.getElem_mem _)
  have parts : ∀ i, i < r.accept.length → ((r.next.getD i []).length : Int) = widthOf r.tapes ∧ (r.next.getD i []).all (entryOk r.accept.length) = true := fun i hi => by
    have := rows i hi
    unfold rowOk at this
    simpa only [Bool.and_eq_true, decide_eq_true_eq] using this
  refine ⟨t1, t3, by omega, s0, by omega, by omega, fun i hi => (parts i hi).1, fun i j hi hj => ?_⟩
  obtain ⟨p1, p2⟩ := parts i hi
  have hjl : j < (r.next.getD i []).length := by omega
  obtain ⟨row, hrow⟩ : ∃ row, row = r.next.getD i [] := ⟨_, rfl⟩
  rw [← hrow] at p2 hjl ⊢
  have e : row.getD j 0 = row[j] := by simp [List.getD, hjl]
  rw [e]
  have := List.all_eq_true.1 p2 row[j] (List.getElem_mem _)
  unfold entryOk inB at this
  have := of_decide_eq_true this
  omega

def stp (r : R) (s c : Nat) : Nat := ((r.next.getD s []).getD c 0).toNat
/-- The state behind k columns. -/
def runK (r : R) (ss : List ByteArray) : Nat → Nat
  | 0 => r.start.toNat
  | k + 1 => stp r (runK r ss k) (colTo ss k ss.length).toNat
def takes (r : R) (ss : List ByteArray) : Bool := r.accept.getD (runK r ss (width ss)) false

theorem colK_bound {ss : List ByteArray} (hw : ss.all wordB = true) (h3 : ss.length ≤ 3) (t : Int) (h1 : 1 ≤ ss.length) (ht : (ss.length : Int) = t) (k : Nat) (hk : k < width ss) :
    0 ≤ colTo ss k ss.length ∧ colTo ss k ss.length < widthOf t := by
  obtain ⟨c, hc, hlt⟩ := col_lt hw h1 h3 k hk
  have : ss.length = 1 ∨ ss.length = 2 ∨ ss.length = 3 := by omega
  rw [hc, ← ht]
  rcases this with e | e | e <;> rw [e] at hlt ⊢ <;> simp [widN, widthOf] at hlt ⊢ <;> omega

theorem run_lt {r : R} (g : Good r) {ss : List ByteArray} (hw : ss.all wordB = true) (ht : (ss.length : Int) = r.tapes) (k : Nat) (hk : k ≤ width ss) : runK r ss k < r.accept.length := by
  have t1 := g.t1
  have t3 := g.t3
  induction k with
  | zero => have := g.s0; have := g.s1; show r.start.toNat < _; omega
  | succ k ih =>
    have hs := ih (by omega)
    obtain ⟨c0, c1⟩ := colK_bound hw (by omega) r.tapes (by omega) ht k (by omega)
    have := g.cell (runK r ss k) (colTo ss k ss.length).toNat hs (by omega)
    show ((r.next.getD (runK r ss k) []).getD (colTo ss k ss.length).toNat 0).toNat < _
    omega

theorem ints_of_owns {w : World} {base : Nat} {v : Value} {xs : List Int} (h : w.ownsRow base 2 1 v xs.length (xs.map (Value.int .i64))) (hm : xs.length ≤ maxLen) : Ints w w.heap.size v xs := by
  rcases h.2 with ⟨rfl, h0⟩ | ⟨g, cap, cur, rfl, hbg, hh, hn, hc, hs, ht⟩
  · unfold Ints
    rw [h0]
    exact ⟨_, 0, 0, 0, rfl, Nat.zero_le _, fun h => absurd h (Nat.lt_irrefl 0), fun i hi => absurd hi (Nat.not_lt_zero i)⟩
  · refine ⟨_, g, 0, cap, rfl, hm, fun _ => ⟨rfl, (Array.getElem?_eq_some_iff.1 hh).1⟩, fun i hi => ?_⟩
    have := h.cellAt i (by omega)
    rw [Nat.zero_add, this]
    simp [List.getD, hi]

set_option maxHeartbeats 2000000 in
theorem specTakes (r : R) (ss : List ByteArray) (bp : Nat) (va : Value) (w : World) (B : Nat) (hr : RelPtr w B bp r) (ha : StrsAt w B va ss) (hB : B ≤ w.heap.size) (hp : bp < w.heap.size)
    (g : Good r) (hw : ss.all wordB = true) (ht : (ss.length : Int) = r.tapes) :
    Calls Try.prog 76 #[.pointer (some ⟨bp, 0, none⟩), va] w fun e w' => e = .returned (.bool (takes r ss)) ∧ Below w.heap.size w w' := by
  have t1 := g.t1
  have t3 := g.t3
  have HC := Lib.hid (specCols ss va w B ha hB hw (by omega))
  have HRP := Lib.hid (fun W (h : Below w.heap.size w W) => hr.below h hB hp)
  have HL40 := width_le ss hw
  have HLT := Lib.hid (fun k hk => run_lt g hw ht k hk)
  have HCB := Lib.hid (fun k hk => colK_bound hw (by omega) r.tapes (by omega) ht k hk)
  have HG := Lib.hid g
  clear t1 t3 hr ha hw ht g
  go_enter Try.func76, Try.ntmps76
  go_wp2_with fail
  refine (HC.out).mono ?_
  rintro e w1 ⟨v, rfl, hown, hb⟩
  have hv := ints_of_owns hown (by rw [cols_length]; unfold maxLen; omega)
  obtain ⟨pa, pn, -, c1, c2, c3, hA, hN⟩ := HRP.out w1 hb
  obtain ⟨av, bv, ov, cv, rfl, hmv, hvv, hcv⟩ := hv
  obtain ⟨aa, ba, oa, ca, rfl, hma, haa, hca⟩ := hA
  obtain ⟨U, ⟨ab, bb, ob, cb, rfl, hmb, hbb, hcb⟩, hU⟩ := hN
  have HB := Lib.hid hb
  rw [cols_length] at hmv hvv hcv
  rw [cols_length]
  obtain ⟨q, hq⟩ : ∃ q, q = width ss := ⟨_, rfl⟩
  rw [← hq] at hmv hvv hcv HL40
  rw [← hq]
  have HQ := Lib.hid hq
  obtain ⟨n, hn⟩ : ∃ n, n = r.accept.length := ⟨_, rfl⟩
  have hn2 : r.next.length = n := by rw [hn]; exact HG.out.len
  rw [← hn] at hma haa hca c2
  rw [hn2] at hmb hbb hcb hU c3
  have HN := Lib.hid hn
  have hn150 : n ≤ 150 := by rw [hn]; exact HG.out.few
  obtain ⟨s0, hs0⟩ : ∃ s0 : Nat, r.start = (s0 : Int) := ⟨r.start.toNat, by have := HG.out.s0; omega⟩
  rw [hs0] at c1
  have HS0 := Lib.hid hs0
  clear hb hown hq hn hn2 hs0 hma hmb hmv
  go_wp2_with fail
  go_loopw [6, 7] (fun st i wr => ∃ k m s : Nat, k ≤ q ∧ i = .int .i64 k ∧ st = .int .i64 s ∧ s = runK r ss k ∧ wr = w1.drewN m) (fun _ i _ => q - (intOf i).toNat)
  case atStart => exact ⟨0, 0, s0, Nat.zero_le _, rfl, rfl, by show s0 = r.start.toNat; rw [HS0.out]; simp, rfl⟩
  case round =>
    obtain ⟨k, m, s, hk, rfl, rfl, hs, rfl⟩ := hrel
    have hsn : s < n := by rw [hs, HN.out]; exact HLT.out k (by rw [← HQ.out]; exact hk)
    have HSK := Lib.hid hs
    clear hs
    by_cases hlt : k < q
    · obtain rfl := (hvv (by omega)).1
      obtain rfl := (hbb (by omega)).1
      have cV := hcv k hlt
      have cH := hcb s hsn
      have hUs := hU s hsn
      obtain ⟨x0, x1⟩ := HCB.out k (by rw [← HQ.out]; exact hlt)
      have ecol : (cols ss).getD k 0 = colTo ss k ss.length := by
        rw [cols_eq]; simp [colsTo, List.getD, (by rw [← HQ.out]; exact hlt : k < width ss)]
      obtain ⟨c, hc⟩ : ∃ c : Nat, colTo ss k ss.length = (c : Int) := ⟨(colTo ss k ss.length).toNat, by omega⟩
      rw [ecol, hc] at cV
      obtain ⟨u, hu⟩ : ∃ u, u = U s := ⟨_, rfl⟩
      rw [← hu] at cH hUs
      obtain ⟨ax, bx, ox, cx, hux, hmx, hxx, hcx⟩ := hUs
      have hrl := HG.out.row s (by rw [← HN.out]; exact hsn)
      obtain ⟨p, hp⟩ : ∃ p, p = (r.next.getD s []).length := ⟨_, rfl⟩
      rw [← hp] at hux hmx hxx hcx hrl
      have hcp : c < p := by omega
      obtain rfl := (hxx (by omega)).1
      rw [hux] at cH
      have cX : w1.cell? ⟨bx, ox + c, none⟩ = some (.int .i64 ((r.next.getD s []).getD c 0)) := hcx c hcp
      have hcell := HG.out.cell s c (by rw [← HN.out]; exact hsn) (by omega)
      obtain ⟨y, hy⟩ : ∃ y : Nat, (r.next.getD s []).getD c 0 = (y : Int) := ⟨((r.next.getD s []).getD c 0).toNat, by omega⟩
      rw [hy] at cX
      have HSU := Lib.hid (show y = runK r ss (k + 1) by
        show y = ((r.next.getD (runK r ss k) []).getD (colTo ss k ss.length).toNat 0).toNat
        rw [← HSK.out, hc, Int.toNat_natCast, hy, Int.toNat_natCast])
      have hyn : y < n := by rw [HN.out]; omega
      unfold maxLen at hmx
      clear hcv hcb hU hcx hxx hux hu hy hcell hc ecol x0 x1 hp hrl hca haa hvv hbb
      go_wp2
      go_quiet (fail)
      go_wp2
      go_roundw
      case rel => exact ⟨k + 1, _, y, by omega, by go_num, rfl, HSU.out, rfl⟩
      case measure => simp [intOf]; omega
    · obtain rfl := (haa (by omega)).1
      have cA := hca s hsn
      have HE := Lib.hid (show r.accept.getD s false = takes r ss by
        unfold takes
        rw [HSK.out, show k = width ss by have := HQ.out; omega])
      obtain ⟨z, hz⟩ : ∃ z, z = r.accept.getD s false := ⟨_, rfl⟩
      rw [← hz] at cA HE
      clear hz hca haa hcv hcb hU hvv hbb
      go_wp2
      go_ret
      exact ⟨by rw [← HE.out]; rfl, below_drewN HB.out _⟩
end Go.Proofs.Yticpmakpajnilaa.Takes
