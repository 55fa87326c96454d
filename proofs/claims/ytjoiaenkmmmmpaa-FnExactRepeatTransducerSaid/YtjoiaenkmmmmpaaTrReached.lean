
/- States that are reached by edges: the model's function.
   Conditions: stated at each theorem. -/
import Derived.Test.YtjoiaenkmmmmpaaTrReach
namespace Go.Proofs.Ytjoiaenkmmmmpaa.TrReached
set_option linter.unusedVariables false
set_option linter.unusedSimpArgs false
open Go.RowKit Mem Copy Rel Heap MarkRow Edg EdgCopy EdgEq TrHeap TrLawKit TrValid TrImplValid TurnImpl TrReach

def turnE (back : Bool) (e : E) : E := if back then flipD e else e
/-- The edges, or the same the other way. -/
def look (back : Bool) (es : List E) : List E := if back then es.map flipD else es
theorem look_length (back : Bool) (es : List E) : (look back es).length = es.length := by cases back <;> simp [look]
theorem look_getD (back : Bool) (es : List E) (k : Nat) (h : k < es.length) : (look back es).getD k noE = turnE back (es.getD k noE) := by
  cases back
  · rfl
  · simp [look, turnE, List.getD, h]

set_option maxHeartbeats 4000000 in
theorem reached (t : T) (back : Bool) (va vn : Value) (bp : Nat) (s0 : List Bool) (n g cap : Nat) (w : World) (B : Nat) (ht : TrPtr w B bp t va vn) (hbp : bp < B) (hB : B ≤ w.heap.size) (hs : Sp w B g n cap s0 w) (hin : Inside n t.edges) (hq : t.edges.length ≤ 1000) (hn : n ≤ 1000) :
    Calls Try.prog 87 #[.pointer (some ⟨bp, 0, none⟩), .slice (some ⟨g, 0, none⟩) n cap, .bool back] w fun e w' => e = .returned (.slice (some ⟨g, 0, none⟩) n cap) ∧ ∃ s, Fix (look back t.edges) s0 s ∧ Sp w B g n cap s w' := by
  obtain ⟨⟨c0, c1, c2, -⟩, -, hes⟩ := ht
  obtain ⟨ts, ta, es⟩ := t
  simp only at c0 c1 c2 hes hin hq ⊢
  clear c0 c1
  obtain ⟨ab, bb, ob, cb, rfl, -, hbb, hcb⟩ := hes
  obtain ⟨q, hqq⟩ : ∃ q, q = es.length := ⟨_, rfl⟩
  rw [← hqq] at hbb hcb hq c2
  have HQ := Lib.hid hqq
  have HC := Lib.hid hcb
  have HS0 := Lib.hid hs
  have HBB := Lib.hid hB
  have HIN := Lib.hid hin
  have HBP := Lib.hid hbp
  have HC2 := Lib.hid (fun W (hb : Below B w W) => (hb.cell (p := ⟨bp, 2, none⟩) hbp).trans c2)
  obtain ⟨ls, hls⟩ : ∃ ls, ls = look back es := ⟨_, rfl⟩
  rw [← hls]
  have HLL := Lib.hid (show ls.length = q by rw [hls, look_length, hqq])
  have HLG := Lib.hid (fun k (hk : k < q) => (show ls.getD k noE = turnE back (es.getD k noE) by rw [hls]; exact look_getD back es k (by rw [← hqq]; exact hk)))
  clear hqq hcb hs hB hin hls c2 hbp
  go_enter Try.func87, Try.ntmps87
  go_wp2
  go_loopw [7, 8, 9, 10] (fun v7 _ _ _ wr => ∃ (c : Bool) (i : Nat), v7 = .bool c ∧ (c = false → pass ls (iter ls i s0) = iter ls i s0) ∧ Sp w B g n cap (iter ls i s0) wr) (fun v7 _ _ _ wr => lowsAt wr g n + flagOf v7)
  case atStart => exact ⟨true, 0, rfl, (fun h => by cases h), HS0.out⟩
  case round =>
    obtain ⟨c, i, rfl, hc, hsp⟩ := hrel
    obtain ⟨s, hsi⟩ : ∃ s, s = iter ls i s0 := ⟨_, rfl⟩
    rw [← hsi] at hc hsp
    have HSI := Lib.hid hsi
    have HSP := Lib.hid hsp
    have HCC := Lib.hid hc
    clear hsi hsp hc HS0
    cases c with
    | false =>
      have HF := Lib.hid (HCC.out rfl)
      clear hbb HCC
      go_wp2
      go_ret
      exact ⟨rfl, s, ⟨⟨i, HSI.out⟩, HF.out⟩, HSP.out⟩
    | true =>
      obtain ⟨wo, rfl⟩ : ∃ wo : World, wo = wr := ⟨_, rfl⟩
      go_wp2
      go_loopw [7, 8, 9, 10] (fun v7 v8 _ _ wr => ∃ (c : Bool) (k : Nat), k ≤ q ∧ v7 = .bool c ∧ v8 = .int .i64 k ∧ (c = false → pass (ls.take k) s = s) ∧ (c = true → lows (pass (ls.take k) s) < lows s) ∧ Sp w B g n cap (pass (ls.take k) s) wr) (fun _ v8 _ _ _ => q - (intOf v8).toNat)
      case atStart => exact ⟨false, 0, Nat.zero_le _, rfl, rfl, (fun _ => rfl), (fun h => by cases h), HSP.out⟩
      case round =>
        obtain ⟨c, k, hk, rfl, rfl, hc0, hc1, hsp⟩ := hrel
        obtain ⟨u, hu⟩ : ∃ u, u = pass (ls.take k) s := ⟨_, rfl⟩
        rw [← hu] at hc0 hc1 hsp
        have b2 := HC2.out wr (hsp.below HBB.out)
        have b3 : bp < wr.heap.size := by have := hsp.lt; have := hsp.ge; have := HBP.out; omega
        have HU := Lib.hid hu
        have HSU := Lib.hid hsp
        have HC0 := Lib.hid hc0
        have HC1 := Lib.hid hc1
        clear hu hc0 hc1 hsp
        by_cases hlt : k < q
        · obtain rfl := (hbb (by omega)).1
          have hbB := (hbb (by omega)).2
          have h4 := ((HC.out k hlt).1).below (HSU.out.below HBB.out) hbB
          have hi4 := HIN.out k (by rw [← HQ.out]; exact hlt)
          have hnx := pass_next ls s k (by rw [HLL.out]; exact hlt)
          rw [← HU.out, HLG.out k hlt] at hnx
          have HNX := Lib.hid hnx
          clear hnx
          obtain ⟨x, hx⟩ : ∃ x, x = es.getD k noE := ⟨_, rfl⟩
          rw [← hx] at h4 hi4 HNX
          clear hbb hx
          obtain ⟨d0, d1, -, -⟩ := h4
          obtain ⟨xs, xd, xi, xo⟩ := x
          simp only at d0 d1 hi4
          obtain ⟨i0, i1, i2, i3⟩ := hi4
          obtain ⟨p, rfl⟩ := Int.eq_ofNat_of_zero_le i0
          obtain ⟨r, rfl⟩ := Int.eq_ofNat_of_zero_le i2
          have hp : p < n := by omega
          have hr : r < n := by omega
          have e1 := HSU.out.cell hp
          have e2 := HSU.out.cell hr
          have e3 := HSU.out.free r
          have e5 := HSU.out.free p
          have e4 := HSU.out.lt
          obtain ⟨y, hy⟩ : ∃ y, y = u.getD p false := ⟨_, rfl⟩
          obtain ⟨z, hz⟩ : ∃ z, z = u.getD r false := ⟨_, rfl⟩
          rw [← hy] at e1
          rw [← hz] at e2
          have HY := Lib.hid hy
          have HZ := Lib.hid hz
          clear hy hz
          cases back <;> cases y <;> cases z
          case false.true.false =>
            have HB1 := Lib.hid (show pass (ls.take (k + 1)) s = u.set r true by
              rw [HNX.out]; exact hit_yes (by show (u.getD p false && !u.getD r false) = true; rw [← HY.out, ← HZ.out]; rfl))
            have HSW := Lib.hid (HSU.out.set hr true)
            have HLO := Lib.hid (lows_set (s := u) (j := r) (by rw [HSU.out.len]; exact hr) HZ.out.symm)
            go_wp2
            go_roundw
            case rel =>
              refine ⟨true, k + 1, by omega, rfl, by go_num, (fun h => by cases h), (fun _ => ?_), by rw [HB1.out]; exact HSW.out⟩
              rw [HB1.out]
              cases c with
              | true => exact Nat.lt_trans HLO.out (HC1.out rfl)
              | false => have := HLO.out; have e := HC0.out rfl; subst e; exact this
            case measure => simp [intOf]; omega
          case true.false.true =>
            have HB1 := Lib.hid (show pass (ls.take (k + 1)) s = u.set p true by
              rw [HNX.out]; exact hit_yes (by show (u.getD r false && !u.getD p false) = true; rw [← HY.out, ← HZ.out]; rfl))
            have HSW := Lib.hid (HSU.out.set hp true)
            have HLO := Lib.hid (lows_set (s := u) (j := p) (by rw [HSU.out.len]; exact hp) HY.out.symm)
            go_wp2
            go_roundw
            case rel =>
              refine ⟨true, k + 1, by omega, rfl, by go_num, (fun h => by cases h), (fun _ => ?_), by rw [HB1.out]; exact HSW.out⟩
              rw [HB1.out]
              cases c with
              | true => exact Nat.lt_trans HLO.out (HC1.out rfl)
              | false => have := HLO.out; have e := HC0.out rfl; subst e; exact this
            case measure => simp [intOf]; omega
          all_goals
            have HB1 := Lib.hid (show pass (ls.take (k + 1)) s = u by
              rw [HNX.out]
              first
                | exact hit_no (by show (u.getD p false && !u.getD r false) = false; rw [← HY.out, ← HZ.out]; rfl)
                | exact hit_no (by show (u.getD r false && !u.getD p false) = false; rw [← HY.out, ← HZ.out]; rfl))
            go_wp2
            go_roundw
            case rel => exact ⟨c, k + 1, by omega, rfl, by go_num, by rw [HB1.out]; exact HC0.out, by rw [HB1.out]; exact HC1.out, by rw [HB1.out]; exact HSU.out⟩
            case measure => simp [intOf]; omega
        · have HALL := Lib.hid (show u = pass ls s by rw [HU.out]; exact pass_all ls s k (by rw [HLL.out]; omega))
          go_wp2
          go_roundw
          case rel =>
            refine ⟨c, i + 1, rfl, (fun h => ?_), ?_⟩
            · have hp : pass ls s = s := HALL.out.symm.trans (HC0.out h)
              show pass ls (pass ls (iter ls i s0)) = pass ls (iter ls i s0)
              rw [← HSI.out, hp, hp]
            · show Sp w B g n cap (pass ls (iter ls i s0)) wr
              rw [← HSI.out, ← HALL.out]
              exact HSU.out
          case measure =>
            rw [HSU.out.lows, HSP.out.lows]
            cases c with
            | true => have := HC1.out rfl; simp [flagOf]; exact this
            | false => rw [HC0.out rfl]; simp [flagOf]

/-- The edges the other way, made by the program. -/
theorem map_take_getD (es : List E) (k : Nat) (h : k < es.length) : (es.take (k + 1)).map flipD = (es.take k).map flipD ++ [flipD (es.getD k noE)] := by
  rw [take_succ_getD es noE k h, List.map_append]; rfl

set_option maxHeartbeats 4000000 in
theorem backwards (es : List E) (ve : Value) (w : World) (B : Nat) (hes : Edges w B ve es) (hB : B ≤ w.heap.size) (hq : es.length ≤ 1000) :
    Calls Try.prog 89 #[ve] w fun e w' => ∃ vn, e = .returned vn ∧ LstE w' w.heap.size vn (es.map flipD) ∧ Below w.heap.size w w' := by
  obtain ⟨ab, bb, ob, cb, rfl, -, hbb, hcb⟩ := hes
  obtain ⟨q, hqq⟩ : ∃ q, q = es.length := ⟨_, rfl⟩
  rw [← hqq] at hbb hcb hq ⊢
  have HQ := Lib.hid hqq
  have HC := Lib.hid hcb
  have HBB := Lib.hid hB
  clear hqq hcb
  go_enter Try.func89, Try.ntmps89
  go_wp2
  go_loopw [3, 8] (fun v i wr => ∃ k : Nat, k ≤ q ∧ i = .int .i64 k ∧ LstE wr w.heap.size v ((es.take k).map flipD) ∧ Below w.heap.size w wr) (fun _ i _ => q - (intOf i).toNat)
  case atStart => exact ⟨0, Nat.zero_le _, rfl, LstE.nil _ _, Below.refl _ _⟩
  case round =>
    obtain ⟨k, hk, rfl, hl, hbel⟩ := hrel
    obtain ⟨a0, n0, c0, rfl, HN0⟩ := hl.shape'
    have HL := Lib.hid hl
    have HK := Lib.hid hbel
    clear hl hbel
    by_cases hlt : k < q
    · obtain rfl := (hbb (by omega)).1
      have hbB := (hbb (by omega)).2
      have h4 := ((HC.out k hlt).1).below HK.out (by have := HBB.out; omega)
      have hmt := map_take_getD es k (by rw [← HQ.out]; exact hlt)
      obtain ⟨x, hx⟩ : ∃ x, x = es.getD k noE := ⟨_, rfl⟩
      rw [← hx] at h4 hmt
      have HX := Lib.hid hmt
      clear hbb hx hmt
      obtain ⟨d0, d1, d2, d3⟩ := h4
      obtain ⟨xs, xd, xi, xo⟩ := x
      simp only at d0 d1 d2 d3
      have HK1 := Lib.hid (Below.alloc HK.out HK.out.size (boxE ⟨xs, xd, xi, xo⟩))
      have HL1 := Lib.hid (LstE.alloc HL.out (boxE ⟨xs, xd, xi, xo⟩))
      have hsz : w.heap.size ≤ (wr.alloc (boxE ⟨xs, xd, xi, xo⟩)).heap.size := HK1.out.size
      have HSZ := Lib.hid hsz
      have HLEN := Lib.hid (show ((es.take k).map flipD).length ≤ 100000000 by rw [List.length_map, List.length_take]; omega)
      clear hsz
      go_wp2_with (at_builtin; refine wpList_pushE rfl _ _ rfl w.heap.size (.slice a0 n0 c0) _ (⟨xd, xs, xi, xo⟩ : E) HL1.out HSZ.out HLEN.out rfl (wr.heap.size + 1) rfl (size_alloc' _ _) ?_; intro v5 w5 hp5; obtain ⟨a5, n5, c5, rfl, HN5⟩ := hp5.lst.shape'; have HL5 := Lib.hid hp5.lst; have HK5 := Lib.hid (below_pushE HK1.out HL1.out hp5 HSZ.out); clear hp5)
      go_roundw
      case rel => exact ⟨k + 1, by omega, by go_num, by rw [HX.out]; exact HL5.out, HK5.out⟩
      case measure => simp [intOf]; omega
    · obtain rfl : k = q := by omega
      have HLL := Lib.hid (show LstE wr w.heap.size (.slice a0 n0 c0) (es.map flipD) by have := HL.out; rwa [List.take_of_length_le (by rw [← HQ.out]; exact Nat.le_refl _)] at this)
      clear hbb
      go_wp2
      go_ret
      exact ⟨_, rfl, HLL.out, HK.out⟩
end Go.Proofs.Ytjoiaenkmmmmpaa.TrReached
