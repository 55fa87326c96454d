
/- Slices of pairs ([2]string) in memory: how they are measured, copied and compared.
   Conditions: stated at each theorem. -/
import Derived.Test.YtiklpejcfdhdkaaRel
import Derived.Deep.RegionWith
import Derived.Laws.StructEq
import Derived.Deep.QuietTactic
import Derived.BigQuiet
namespace Go.Proofs.Ytiklpejcfdhdkaa.ArrS
set_option linter.unusedVariables false
set_option linter.unusedSimpArgs false
set_option maxRecDepth 100000
open Go.RowKit Mem Copy Rel

/-- A pair as data. -/
structure D where
  x : ByteArray
  y : ByteArray
deriving DecidableEq

def noD : D := ⟨⟨#[]⟩, ⟨#[]⟩⟩
def D.Fits (d : D) : Prop := d.x.size ≤ maxLen ∧ d.y.size ≤ maxLen

/-- The two cells from an address on hold the pair. -/
structure At2 (w : World) (b o : Nat) (d : D) : Prop where
  c0 : w.cell? ⟨b, o, none⟩ = some (.string d.x)
  c1 : w.cell? ⟨b, o + 1, none⟩ = some (.string d.y)
theorem At2.below {w w' : World} {b o B : Nat} {d : D} (h : At2 w b o d) (hb : Below B w w') (hB : b < B) : At2 w' b o d :=
  ⟨(hb.cell (p := ⟨b, o, none⟩) hB).trans h.c0, (hb.cell (p := ⟨b, o + 1, none⟩) hB).trans h.c1⟩

/-- The slice value v has the pairs ds as elements; its row lies below block B. -/
def Ds (w : World) (B : Nat) (v : Value) (ds : List D) : Prop :=
  ∃ a b off cap, v = .slice a ds.length cap ∧ ds.length ≤ maxLen ∧ (0 < ds.length → a = some ⟨b, off, none⟩ ∧ b < B) ∧ ∀ i, i < ds.length → At2 w b (off + i * 2) (ds.getD i noD) ∧ (ds.getD i noD).Fits
theorem Ds.below {w w' : World} {B B' : Nat} {v : Value} {ds : List D} (h : Ds w B v ds) (hb : Below B' w w') (hB : B ≤ B') : Ds w' B v ds := by
  obtain ⟨a, b, off, cap, hv, hm, ha, hc⟩ := h
  exact ⟨a, b, off, cap, hv, hm, ha, fun i hi => ⟨(hc i hi).1.below hb (by have := (ha (by omega)).2; omega), (hc i hi).2⟩⟩
theorem Ds.mono {w : World} {B B' : Nat} {v : Value} {ds : List D} (h : Ds w B v ds) (hB : B ≤ B') : Ds w B' v ds := by
  obtain ⟨a, b, off, cap, hv, hm, ha, hc⟩ := h
  exact ⟨a, b, off, cap, hv, hm, fun h => ⟨(ha h).1, Nat.lt_of_lt_of_le (ha h).2 hB⟩, hc⟩
theorem Ds.drewN {w : World} {B : Nat} {v : Value} {ds : List D} (h : Ds w B v ds) (m : Nat) : Ds (w.drewN m) B v ds := h.below (below_drewN (Below.refl B w) m) (Nat.le_refl _)

/-- The cells of a row of pairs. -/
def cellOf (d : D) (j : Nat) : Value := if j = 0 then .string d.x else .string d.y
def rowF (ds : List D) (i : Nat) : Value := cellOf (ds.getD (i / 2) noD) (i % 2)
def zeroF (i : Nat) : Value := .string ⟨#[]⟩
abbrev zeroCells : Array Value := #[.string ⟨#[]⟩, .string ⟨#[]⟩]
theorem rowF_at (ds : List D) (k j : Nat) (hj : j < 2) : rowF ds (k * 2 + j) = cellOf (ds.getD k noD) j := by
  unfold rowF
  rw [show (k * 2 + j) / 2 = k by omega, show (k * 2 + j) % 2 = j by omega]
theorem rowIs_set2 {w : World} {b n : Nat} {t : TypeId} {f : Nat → Value} (h : w.rowIs b t n f) (k : Nat) (v0 v1 : Value) :
    ((w.setCell ⟨b, k * 2, none⟩ v0).setCell ⟨b, k * 2 + 1, none⟩ v1).rowIs b t n (fun j => if j = k * 2 + 1 then v1 else if j = k * 2 then v0 else f j) :=
  (h.set _ _).set _ _
theorem step2 (ds : List D) (k : Nat) (d : D) (hd : d = ds.getD k noD) (g : Nat → Value) (j : Nat) :
    (if j = k * 2 + 1 then .string d.y else if j = k * 2 then .string d.x else if j < k * 2 then rowF ds j else g j) = if j < (k + 1) * 2 then rowF ds j else g j := by
  by_cases h1 : j = k * 2 + 1
  · subst h1; rw [if_pos rfl, if_pos (by omega), rowF_at _ _ _ (by omega), ← hd]; rfl
  · rw [if_neg h1]
    by_cases h0 : j = k * 2
    · subst h0; rw [if_pos rfl, if_pos (by omega)]; have := rowF_at ds k 0 (by omega); rw [Nat.add_zero] at this; rw [this, ← hd]; rfl
    · rw [if_neg h0]
      by_cases hl : j < k * 2
      · rw [if_pos hl, if_pos (by omega)]
      · rw [if_neg hl, if_neg (by omega)]

theorem infoD : (Try.prog.info? 55).map (fun i => (i.zero, i.size, i.bytes)) = some (some (.agg zeroCells), 2, 32) := by kernel_rfl

theorem run_make_ds (n : Nat) (hn : n ≤ 1048576) (w : World) :
    (Instr.makeSlice 24 (.int .i64 (n : Int)) (.int .i64 (n : Int))).run Try.prog w = .ok (.slice (some ⟨w.heap.size, 0, none⟩) n n) (w.alloc (.cells (madeCells zeroCells (n * 2)) 55)) := by
  obtain ⟨i, hi, hz, hs, hb⟩ := info_parts infoD
  have h := run_make (P := Try.prog) w 24 55 i (.agg zeroCells) Try.underlying24 hi hz .i64 .i64 (n : Int) (n : Int) (by omega) (by omega) (by rw [hb]; omega) (by omega)
  rw [Int.toNat_natCast, hs] at h
  exact h
theorem made_row (w : World) (n : Nat) : (w.alloc (.cells (madeCells zeroCells (n * 2)) 55)).rowIs w.heap.size 55 (n * 2) zeroF := by
  refine ⟨_, Go.Deep.blk_alloc_new _ _, size_madeCells _ _, fun i hi => ?_⟩
  have hm : i % 2 < 2 := Nat.mod_lt _ (by decide)
  have e : (madeCells zeroCells (n * 2))[i]? = some (zeroCells[i % 2]'(hm)) := by
    simp [madeCells, hi]
    rw [List.getElem?_eq_getElem (by simpa using hm)]; rfl
  rw [e]
  unfold zeroF
  generalize i % 2 = j at hm ⊢
  match j, hm with
  | 0, _ => rfl
  | 1, _ => rfl

set_option maxHeartbeats 400000 in
theorem toD (d : D) (w : World) :
    Calls Try.prog 58 #[.agg #[.string d.x, .string d.y]] w fun e w' => e = .returned (.agg #[.string d.x, .string d.y]) ∧ Below w.heap.size w w' ∧ w'.heap.size = w.heap.size + 3 := by
  obtain ⟨x, y⟩ := d
  simp only
  go_enter Try.func58, Try.ntmps58
  go_wp2
  refine wp_loop_rounds 3 ?_
  rw [rounds_succ]
  go_wp2
  rw [rounds_succ]
  go_wp2
  rw [rounds_succ]
  go_wp2
  refine bodyPost_ret (v := .agg #[.string x, .string y]) (by simp [results, Try.results58, go_sem]) rfl ⟨rfl, ?_, ?_⟩
  · repeat first
      | exact Below.refl _ _
      | refine Below.alloc ?_ (by simp; try omega) _
      | refine Below.setCell ?_ (by simp; try omega) _
  · simp [World.setCell]


set_option maxHeartbeats 1000000 in
theorem toDs (ds : List D) (va : Value) (w : World) (B : Nat) (ha : Ds w B va ds) (hB : B ≤ w.heap.size) (hx : ds.length ≤ 1048576) :
    Calls Try.prog 28 #[va] w fun e w' => e = .returned (.slice (some ⟨w.heap.size, 0, none⟩) ds.length ds.length) ∧
      w'.rowIs w.heap.size 55 (ds.length * 2) (rowF ds) ∧ Below w.heap.size w w' ∧ w'.heap.size = w.heap.size + 1 + 3 * ds.length := by
  obtain ⟨a, b, off, cap, rfl, hma, haa, hca⟩ := ha
  obtain ⟨n, hn⟩ : ∃ n, n = ds.length := ⟨_, rfl⟩
  rw [← hn] at hma hca haa hx
  rw [← hn]
  clear hma
  have HN := Lib.hid hn
  clear hn
  have HC := Lib.hid hca
  have HBB := Lib.hid hB
  clear hca hB
  have hmk := run_make_ds n (by omega)
  go_enter Try.func28, Try.ntmps28
  go_wp2
  go_loopw [4] (fun i wr => ∃ k : Nat, k ≤ n ∧ i = .int .i64 k ∧ wr.rowIs w.heap.size 55 (n * 2) (fun j => if j < k * 2 then rowF ds j else zeroF j) ∧ Below w.heap.size w wr ∧ wr.heap.size = w.heap.size + 1 + 3 * k) (fun i _ => n - (intOf i).toNat)
  case atStart =>
    exact ⟨0, Nat.zero_le _, rfl, (made_row w n).congr fun i hi => by simp, (Below.refl _ _).alloc (Nat.le_refl _) _, by simp⟩
  case round =>
    obtain ⟨k, hk, rfl, hrow, hbel, hsz⟩ := hrel
    have HR := Lib.hid hrow
    have HBL := Lib.hid hbel
    have HS := Lib.hid hsz
    clear hrow hbel hsz hmk
    by_cases hlt : k < n
    · obtain rfl := (haa (by omega)).1
      have hbB := (haa (by omega)).2
      have h2 := ((HC.out k hlt).1).below HBL.out (by have := HBB.out; omega)
      obtain ⟨d, hd⟩ : ∃ d, d = ds.getD k noD := ⟨_, rfl⟩
      rw [← hd] at h2
      have HX := Lib.hid hd
      have HT := Lib.hid (fun W => toD d W)
      obtain ⟨c0, c1⟩ := h2
      obtain ⟨dx, dy⟩ := d
      simp only at c0 c1 HT
      clear haa hd
      go_wp2_with fail
      refine (HT.out _).mono ?_
      rintro e w1 ⟨rfl, hb, hs⟩
      have H1 := Lib.hid hb
      have H2 := Lib.hid hs
      have hN : w.heap.size < wr.heap.size := by have := HS.out; omega
      have HR1 := Lib.hid (rowIs_below HR.out hb hN)
      have f0 := HR1.out.frozen (k * 2)
      have f1 := HR1.out.frozen (k * 2 + 1)
      have d0 : w1.cell? ⟨w.heap.size, k * 2, none⟩ = some (.string ⟨#[]⟩) := by rw [HR1.out.cell (by omega), if_neg (by omega)]; rfl
      have d1 : w1.cell? ⟨w.heap.size, k * 2 + 1, none⟩ = some (.string ⟨#[]⟩) := by rw [HR1.out.cell (by omega), if_neg (by omega)]; rfl
      clear hb hs c0 c1 HR
      go_wp2
      go_roundw
      case rel =>
        have e1 := HS.out
        have e2 := H2.out
        refine ⟨k + 1, by omega, by go_num, (rowIs_set2 HR1.out k _ _).congr fun j hj => step2 ds k ⟨dx, dy⟩ HX.out zeroF j, ((HBL.out.trans (H1.out.mono (by omega))).setCell (Nat.le_refl _) _).setCell (Nat.le_refl _) _, ?_⟩
        simp only [World.setCell, Array.size_modify]
        omega
      case measure => simp [intOf]; omega
    · have HRR := Lib.hid (HR.out.congr (g := rowF ds) fun i hi => by rw [if_pos (by omega)])
      have HK := Lib.hid (show k = n by omega)
      clear HR
      go_wp2
      go_ret
      exact ⟨rfl, HRR.out, HBL.out, by have := HK.out; have := HS.out; omega⟩

theorem toDs_at (N : Nat) (ds : List D) (va : Value) (w : World) (B : Nat) (hN : w.heap.size = N) (ha : Ds w B va ds) (hB : B ≤ w.heap.size) (hx : ds.length ≤ 1048576) :
    Calls Try.prog 28 #[va] w fun e w' => e = .returned (.slice (some ⟨N, 0, none⟩) ds.length ds.length) ∧
      w'.rowIs N 55 (ds.length * 2) (rowF ds) ∧ Below N w w' ∧ w'.heap.size = N + 1 + 3 * ds.length := by
  subst hN; exact toDs ds va w B ha hB hx
theorem ds_of_row {w : World} {M : Nat} {ds : List D} (h : w.rowIs M 55 (ds.length * 2) (rowF ds)) (hs : ds.length ≤ 1048576) (hf : ∀ i, i < ds.length → (ds.getD i noD).Fits) (B : Nat) (hB : M < B) : Ds w B (.slice (some ⟨M, 0, none⟩) ds.length ds.length) ds := by
  refine ⟨_, M, 0, _, rfl, by unfold maxLen; omega, fun _ => ⟨rfl, hB⟩, fun i hi => ⟨⟨?_, ?_⟩, hf i hi⟩⟩
  · have := rowF_at ds i 0 (by omega); rw [Nat.zero_add, h.cell (by omega)]; rw [Nat.add_zero] at this; rw [this]; rfl
  · rw [Nat.zero_add, h.cell (by omega), rowF_at ds i 1 (by omega)]; rfl
theorem Ds.fits {w : World} {B : Nat} {v : Value} {ds : List D} (h : Ds w B v ds) : ∀ i, i < ds.length → (ds.getD i noD).Fits := by
  obtain ⟨_, _, _, _, _, _, _, hc⟩ := h
  exact fun i hi => (hc i hi).2

theorem bytes_ne {x y : ByteArray} (h : ¬ x = y) : (x.toList == y.toList) = false := by
  rw [beq_eq_false_iff_ne]
  intro e
  rw [ByteArray.toList_eq, ByteArray.toList_eq] at e
  exact h (ByteArray.ext (Array.ext' e))
def sameD (d e : D) : Bool := decide (d = e)
theorem sameD_yes {d e : D} (h : d = e) : sameD d e = true := by simp [sameD, h]
theorem sameD_no {d e : D} (h : ¬ d = e) : sameD d e = false := by simp [sameD, h]

set_option maxHeartbeats 400000 in
theorem eqD (d f : D) (w : World) :
    Calls Try.prog 60 #[.agg #[.string d.x, .string d.y], .agg #[.string f.x, .string f.y]] w fun e w' => e = .returned (.bool (sameD d f)) ∧ Below w.heap.size w w' := by
  obtain ⟨x, y⟩ := d
  obtain ⟨x', y'⟩ := f
  simp only
  have HB := Lib.hid (base_box (base_box (Below.refl _ w) (.cells #[.string x, .string y] 55)) (.cells #[.string x', .string y'] 55))
  by_cases h1 : x = x'
  · subst h1
    by_cases h2 : y = y'
    · subst h2
      have HE := Lib.hid (show sameD ⟨x, y⟩ ⟨x, y⟩ = true by simp [sameD])
      go_enter Try.func60, Try.ntmps60
      go_wp2
      refine wp_loop_rounds 3 ?_
      rw [rounds_succ]
      go_wp2
      go_quiet (fail)
      go_wp2
      rw [rounds_succ]
      go_wp2
      go_quiet (fail)
      go_wp2
      rw [rounds_succ]
      go_wp2
      go_ret
      exact ⟨by rw [HE.out]; rfl, by first | exact below_drewN HB.out _ | exact below_drewN (below_drewN HB.out _) _⟩
    · have HE := Lib.hid (show sameD ⟨x, y⟩ ⟨x, y'⟩ = false by simp [sameD, h2])
      have t2 := (bytes_ne h2)
      go_enter Try.func60, Try.ntmps60
      go_wp2
      refine wp_loop_rounds 3 ?_
      rw [rounds_succ]
      go_wp2
      go_quiet (fail)
      go_wp2
      rw [rounds_succ]
      go_wp2
      go_quiet (fail)
      go_wp2
      go_ret
      exact ⟨by rw [HE.out]; rfl, by first | exact below_drewN HB.out _ | exact below_drewN (below_drewN HB.out _) _⟩
  · have HE := Lib.hid (show sameD ⟨x, y⟩ ⟨x', y'⟩ = false by simp [sameD, h1])
    have t1 := (bytes_ne h1)
    go_enter Try.func60, Try.ntmps60
    go_wp2
    refine wp_loop_rounds 3 ?_
    rw [rounds_succ]
    go_wp2
    go_quiet (fail)
    go_wp2
    go_ret
    exact ⟨by rw [HE.out]; rfl, by exact below_drewN HB.out _⟩

set_option maxHeartbeats 1000000 in
theorem eqDs (xs ys : List D) (va vb : Value) (w : World) (B : Nat) (ha : Ds w B va xs) (hb : Ds w B vb ys) (hB : B ≤ w.heap.size) :
    Calls Try.prog 32 #[va, vb] w fun e w' => e = .returned (.bool (same xs ys)) ∧ Below w.heap.size w w' := by
  obtain ⟨a, ba, oa, ca, rfl, hma, haa, hca⟩ := ha
  obtain ⟨b, bb, ob, cb, rfl, hmb, hbb, hcb⟩ := hb
  unfold maxLen at hma hmb
  by_cases hl : xs.length = ys.length
  · have HL := Lib.hid hl
    obtain ⟨n, hn⟩ : ∃ n, n = xs.length := ⟨_, rfl⟩
    have hn2 : ys.length = n := by omega
    rw [← hn, hn2]
    rw [← hn] at hma hca haa
    rw [hn2] at hcb hbb
    have HN := Lib.hid hn
    have HN2 := Lib.hid hn2
    have HA := Lib.hid hca
    have HBB := Lib.hid hcb
    have HSB := Lib.hid hB
    clear hl hn hn2 hmb hca hcb hB
    go_enter Try.func32, Try.ntmps32
    go_wp2
    go_loopw [5] (fun i wr => ∃ k : Nat, k ≤ n ∧ i = .int .i64 k ∧ xs.take k = ys.take k ∧ Below w.heap.size w wr) (fun i _ => n - (intOf i).toNat)
    case atStart => exact ⟨0, Nat.zero_le _, rfl, rfl, Below.refl _ _⟩
    case round =>
      obtain ⟨k, hk, rfl, hg, hbel⟩ := hrel
      have HG := Lib.hid hg
      have HBL := Lib.hid hbel
      clear hg hbel
      by_cases hlt : k < n
      · obtain rfl := (haa (by omega)).1
        obtain rfl := (hbb (by omega)).1
        have hbA := (haa (by omega)).2
        have hbB := (hbb (by omega)).2
        clear haa hbb
        have h2 := ((HA.out k hlt).1).below HBL.out (by have := HSB.out; omega)
        have g2 := ((HBB.out k hlt).1).below HBL.out (by have := HSB.out; omega)
        obtain ⟨x, hx⟩ : ∃ x, x = xs.getD k noD := ⟨_, rfl⟩
        obtain ⟨y, hy⟩ : ∃ y, y = ys.getD k noD := ⟨_, rfl⟩
        rw [← hx] at h2
        rw [← hy] at g2
        have HX := Lib.hid hx
        have HY := Lib.hid hy
        clear hx hy
        by_cases he : x = y
        all_goals
          have HE := Lib.hid he
          have HW := Lib.hid (fun W => eqD x y W)
          first
            | rw [sameD_yes he] at HW
            | rw [sameD_no he] at HW
          clear he
          obtain ⟨c0, c1⟩ := h2
          obtain ⟨d0, d1⟩ := g2
          obtain ⟨x1, x2⟩ := x
          obtain ⟨y1, y2⟩ := y
          simp only at c0 c1 d0 d1 HW
          have hN : w.heap.size ≤ wr.heap.size := HBL.out.size
          go_wp2
          go_region_with (go_at_call 60; refine (HW.out _).mono ?_; rintro e w1 ⟨rfl, hb⟩; have HB1 := Lib.hid (HBL.out.drew.trans (hb.mono hN)); clear hb)
          all_goals go_wp2
          all_goals first
            | (go_roundw
               case rel => exact ⟨k + 1, by omega, by go_num, same_step xs ys noD k (by rw [← HN.out]; exact hlt) (by rw [HN2.out]; exact hlt) HG.out (by rw [← HX.out, ← HY.out]; exact HE.out), HB1.out⟩
               case measure => simp [intOf]; omega)
            | (go_ret
               exact ⟨by rw [same_no xs ys noD k (by rw [← HX.out, ← HY.out]; exact HE.out)]; rfl, HB1.out⟩)
      · have HE := Lib.hid (same_end xs ys k (by rw [← HN.out]; omega) HL.out HG.out)
        go_wp2
        go_ret
        exact ⟨by rw [HE.out]; rfl, HBL.out⟩
  · have HS := Lib.hid (same_len xs ys hl)
    have h1 : ((xs.length : Int) != (ys.length : Int)) = true := by rw [bne_iff_ne]; omega
    obtain ⟨p, hp⟩ : ∃ p : Nat, p = xs.length := ⟨_, rfl⟩
    obtain ⟨q, hq⟩ : ∃ q : Nat, q = ys.length := ⟨_, rfl⟩
    rw [← hp, ← hq] at h1
    rw [← hp, ← hq]
    clear hca hcb hl hma hmb hp hq haa hbb
    go_enter Try.func32, Try.ntmps32
    go_wp2
    go_ret
    exact ⟨by rw [HS.out]; rfl, Below.refl _ _⟩

theorem noGuard : Try.prog.eqGuardType Try.prog.depth 55 = false := by kernel_rfl
theorem equalL (d e : D) (w : World) : (Op.equalIn 10000 55 (.agg #[.string d.x, .string d.y]) (.agg #[.string e.x, .string e.y])).run Try.prog w = .ok (sameD d e) w := by
  obtain ⟨x, y⟩ := d
  obtain ⟨x', y'⟩ := e
  have u3 := Try.underlying9
  have a3 := Try.isAgg9
  have z3 := Try.sizeOf9
  simp only
  rw [show (10000 : Nat) = 9999 + 1 from rfl, Op.equalIn]
  simp only [Sem.run_bind, run_underlying Try.underlying55, Result.andThen_ok]
  simp only [Std.Legacy.Range.forIn_eq_forIn_range', Std.Legacy.Range.size, Nat.sub_zero, Nat.add_sub_cancel, Nat.div_one, List.range'_succ, List.range'_zero, List.forIn_cons, List.forIn_nil]
  go_simp
  unfold sameD
  by_cases h1 : x = x'
  · subst h1
    by_cases h2 : y = y'
    · subst h2
      simp
    · have t2 := (show ¬ y.toList = y'.toList by simpa using bytes_ne h2)
      simp [h2, t2]
  · have t1 := (show ¬ x.toList = x'.toList by simpa using bytes_ne h1)
    simp [h1, t1]

set_option maxHeartbeats 1000000 in
theorem libDs (xs ys : List D) (va vb : Value) (w : World) (B : Nat) (ha : Ds w B va xs) (hb : Ds w B vb ys) :
    Calls Try.prog 36 #[va, vb] w fun e w' => e = .returned (.bool (same xs ys)) ∧ ∃ n, w' = w.drewN n := by
  obtain ⟨a, ba, oa, ca, rfl, hma, haa, hca⟩ := ha
  obtain ⟨b, bb, ob, cb, rfl, hmb, hbb, hcb⟩ := hb
  unfold maxLen at hma hmb
  by_cases hl : xs.length = ys.length
  · have HL := Lib.hid hl
    obtain ⟨n, hn⟩ : ∃ n, n = xs.length := ⟨_, rfl⟩
    have hn2 : ys.length = n := by omega
    rw [← hn, hn2]
    rw [← hn] at hma hca haa
    rw [hn2] at hcb hbb
    have HN := Lib.hid hn
    have HN2 := Lib.hid hn2
    have HA := Lib.hid hca
    have HBB := Lib.hid hcb
    have hgd := noGuard
    clear hl hn hn2 hmb hca hcb
    go_enter Try.func36, Try.ntmps36
    go_wp2
    go_loopw [13] (fun i wr => ∃ k m : Nat, k ≤ n ∧ i = .int .i64 k ∧ xs.take k = ys.take k ∧ wr = w.drewN m) (fun i _ => n - (intOf i).toNat)
    case atStart => exact ⟨0, 0, Nat.zero_le _, rfl, rfl, rfl⟩
    case round =>
      obtain ⟨k, m, hk, rfl, hg, rfl⟩ := hrel
      have HG := Lib.hid hg
      clear hg
      by_cases hlt : k < n
      · obtain rfl := (haa (by omega)).1
        obtain rfl := (hbb (by omega)).1
        clear haa hbb
        obtain ⟨c0, c1⟩ := (HA.out k hlt).1
        obtain ⟨d0, d1⟩ := (HBB.out k hlt).1
        obtain ⟨x, hx⟩ : ∃ x, x = xs.getD k noD := ⟨_, rfl⟩
        obtain ⟨y, hy⟩ : ∃ y, y = ys.getD k noD := ⟨_, rfl⟩
        rw [← hx] at c0 c1
        rw [← hy] at d0 d1
        have HX := Lib.hid hx
        have HY := Lib.hid hy
        clear hx hy
        by_cases he : x = y
        all_goals
          have HE := Lib.hid he
          have hEq := fun w => equalL x y w
          first
            | rw [sameD_yes he] at hEq
            | rw [sameD_no he] at hEq
          clear he
          obtain ⟨x1, x2⟩ := x
          obtain ⟨y1, y2⟩ := y
          simp only at c0 c1 d0 d1 hEq
          go_wp2
          go_quiet (fail)
          go_wp2
          first
            | (go_roundw
               case rel => exact ⟨k + 1, _, by omega, by go_num, same_step xs ys noD k (by rw [← HN.out]; exact hlt) (by rw [HN2.out]; exact hlt) HG.out (by rw [← HX.out, ← HY.out]; exact HE.out), rfl⟩
               case measure => simp [intOf]; omega)
            | (go_ret
               exact ⟨by rw [same_no xs ys noD k (by rw [← HX.out, ← HY.out]; exact HE.out)]; rfl, _, World.drewN_drewN ..⟩)
      · have HE := Lib.hid (same_end xs ys k (by rw [← HN.out]; omega) HL.out HG.out)
        go_wp2
        go_ret
        exact ⟨by rw [HE.out]; rfl, _, rfl⟩
  · have HS := Lib.hid (same_len xs ys hl)
    have h1 : ((xs.length : Int) != (ys.length : Int)) = true := by rw [bne_iff_ne]; omega
    obtain ⟨p, hp⟩ : ∃ p : Nat, p = xs.length := ⟨_, rfl⟩
    obtain ⟨q, hq⟩ : ∃ q : Nat, q = ys.length := ⟨_, rfl⟩
    rw [← hp, ← hq] at h1
    rw [← hp, ← hq]
    clear hca hcb hl hma hmb hp hq haa hbb
    go_enter Try.func36, Try.ntmps36
    go_wp2
    go_ret
    exact ⟨by rw [HS.out]; rfl, 0, rfl⟩


/-- What is left of a bound behind pairs of texts; -1 if it is not enough. -/
def szE (left : Int) (d : D) : Int := if left < (d.x.size : Int) then -1 else if left - d.x.size < (d.y.size : Int) then -1 else left - d.x.size - d.y.size
def szTo : Int → List D → Int
  | left, [] => left
  | left, e :: r => if szE left e < 0 then -1 else szTo (szE left e) r
def szPs (left : Int) (ds : List D) : Int := if left < (ds.length : Int) then -1 else szTo (left - ds.length) ds
theorem szE_le {left : Int} {e : D} (h : 0 ≤ szE left e) : szE left e ≤ left := by
  unfold szE at h ⊢
  by_cases h1 : left < (e.x.size : Int)
  · rw [if_pos h1] at h; omega
  · rw [if_neg h1] at h ⊢
    by_cases h2 : left - e.x.size < (e.y.size : Int)
    · rw [if_pos h2] at h; omega
    · rw [if_neg h2] at h ⊢; omega
theorem szE_neg {left : Int} {e : D} (h0 : 0 ≤ left) (h : szE left e < 0) : szE left e = -1 := by
  unfold szE at h ⊢
  by_cases h1 : left < (e.x.size : Int)
  · rw [if_pos h1]
  · rw [if_neg h1] at h ⊢
    by_cases h2 : left - e.x.size < (e.y.size : Int)
    · rw [if_pos h2]
    · rw [if_neg h2] at h ⊢; omega
theorem szTo_neg (es : List D) : ∀ left : Int, 0 ≤ left → szTo left es < 0 → szTo left es = -1 := by
  induction es with
  | nil => intro l h0 h; simp [szTo] at h; omega
  | cons e r ih =>
    intro l h0 h
    unfold szTo at h ⊢
    by_cases h1 : szE l e < 0
    · rw [if_pos h1]
    · rw [if_neg h1] at h ⊢
      exact ih _ (by omega) h
theorem szPs_neg {left : Int} {es : List D} (h0 : 0 ≤ left) (h : szPs left es < 0) : szPs left es = -1 := by
  unfold szPs at h ⊢
  by_cases h1 : left < (es.length : Int)
  · rw [if_pos h1]
  · rw [if_neg h1] at h ⊢
    exact szTo_neg _ _ (by omega) h

set_option maxHeartbeats 400000 in
theorem szD (d : D) (left : Int) (w : World) (h0 : 0 ≤ left) (h1 : left ≤ 1048576) (hf : d.Fits) :
    Calls Try.prog 55 #[.agg #[.string d.x, .string d.y], .int .i64 left] w fun x w' => x = .returned (.int .i64 (szE left d)) ∧ Below w.heap.size w w' := by
  obtain ⟨x, y⟩ := d
  obtain ⟨f1, f2⟩ := hf
  unfold maxLen at f1 f2
  simp only at f1 f2 ⊢
  by_cases g1 : left < (x.size : Int)
  · have HE := Lib.hid (show szE left ⟨x, y⟩ = -1 by unfold szE; rw [if_pos g1])
    have t1 : left - (x.size : Int) < 0 := by omega
    go_enter Try.func55, Try.ntmps55
    go_wp2
    refine wp_loop_rounds 3 ?_
    rw [rounds_succ]
    go_wp2
    go_ret
    exact ⟨by rw [HE.out]; rfl, (Below.refl _ _).alloc (Nat.le_refl _) _⟩
  · have t1 : ¬ left - (x.size : Int) < 0 := by omega
    by_cases g2 : left - (x.size : Int) < (y.size : Int)
    · have HE := Lib.hid (show szE left ⟨x, y⟩ = -1 by unfold szE; rw [if_neg g1, if_pos g2])
      have t2 : left - (x.size : Int) - (y.size : Int) < 0 := by omega
      go_enter Try.func55, Try.ntmps55
      go_wp2
      refine wp_loop_rounds 3 ?_
      rw [rounds_succ]
      go_wp2
      rw [rounds_succ]
      go_wp2
      go_ret
      exact ⟨by rw [HE.out]; rfl, (Below.refl _ _).alloc (Nat.le_refl _) _⟩
    · have HE := Lib.hid (show szE left ⟨x, y⟩ = left - x.size - y.size by unfold szE; rw [if_neg g1, if_neg g2])
      have t2 : ¬ left - (x.size : Int) - (y.size : Int) < 0 := by omega
      go_enter Try.func55, Try.ntmps55
      go_wp2
      refine wp_loop_rounds 3 ?_
      rw [rounds_succ]
      go_wp2
      rw [rounds_succ]
      go_wp2
      rw [rounds_succ]
      go_wp2
      go_ret
      exact ⟨by rw [HE.out]; rfl, (Below.refl _ _).alloc (Nat.le_refl _) _⟩

set_option maxHeartbeats 1000000 in
theorem szDs (es : List D) (va : Value) (left : Int) (w : World) (B : Nat) (ha : Ds w B va es) (hB : B ≤ w.heap.size) (h0 : 0 ≤ left) (h1 : left ≤ 1048576) :
    Calls Try.prog 24 #[va, .int .i64 left] w fun e w' => e = .returned (.int .i64 (szPs left es)) ∧ Below w.heap.size w w' := by
  obtain ⟨a, b, off, cap, rfl, hma, haa, hca⟩ := ha
  obtain ⟨n, hn⟩ : ∃ n, n = es.length := ⟨_, rfl⟩
  rw [← hn] at hma hca haa
  unfold maxLen at hma
  by_cases hbig : left < (n : Int)
  · have HE := Lib.hid (show szPs left es = -1 by unfold szPs; rw [if_pos (by omega)])
    have ht : left - (n : Int) < 0 := by omega
    rw [← hn]
    clear hn hca haa
    go_enter Try.func24, Try.ntmps24
    go_wp2
    go_ret
    exact ⟨by rw [HE.out]; rfl, Below.refl _ _⟩
  · have HE := Lib.hid (show szPs left es = szTo (left - n) es by unfold szPs; rw [if_neg (by omega), hn])
    have ht : ¬ left - (n : Int) < 0 := by omega
    rw [← hn]
    have HN := Lib.hid hn
    have HC := Lib.hid hca
    have HB := Lib.hid hB
    clear hn hca
    go_enter Try.func24, Try.ntmps24
    go_wp2
    go_loopw [1, 5] (fun l i wr => ∃ (k : Nat) (L : Int), k ≤ n ∧ i = .int .i64 k ∧ l = .int .i64 L ∧ 0 ≤ L ∧ L ≤ 1048576 ∧ szTo (left - n) es = szTo L (es.drop k) ∧ Below w.heap.size w wr) (fun _ i _ => n - (intOf i).toNat)
    case atStart => exact ⟨0, left - n, Nat.zero_le _, rfl, rfl, by omega, by omega, rfl, Below.refl _ _⟩
    case round =>
      obtain ⟨k, L, hk, rfl, rfl, hL0, hL1, hg, hbel⟩ := hrel
      have HG := Lib.hid hg
      have HBL := Lib.hid hbel
      clear hg ht hbel
      by_cases hlt : k < n
      · obtain rfl := (haa (by omega)).1
        have hbB := (haa (by omega)).2
        have h4 := ((HC.out k hlt).1).below HBL.out (by have := HB.out; omega)
        have hfit := (HC.out k hlt).2
        have HD := Lib.hid (drop_getD es noD k (by rw [← HN.out]; exact hlt))
        obtain ⟨x, hx⟩ : ∃ x, x = es.getD k noD := ⟨_, rfl⟩
        rw [← hx] at h4 hfit HD
        clear hx
        have HZ := Lib.hid (fun W => szD x L W hL0 hL1 hfit)
        obtain ⟨z, hz⟩ : ∃ z, z = szE L x := ⟨_, rfl⟩
        have HSZ := Lib.hid (show 0 ≤ z → z ≤ L by rw [hz]; exact fun h => szE_le h)
        have HNG := Lib.hid (show z < 0 → z = -1 by rw [hz]; exact szE_neg hL0)
        rw [← hz] at HZ
        have HZZ := Lib.hid hz
        clear hz hfit
        obtain ⟨c0, c1⟩ := h4
        obtain ⟨x1, x2⟩ := x
        simp only at c0 c1 HZ
        have hN : w.heap.size ≤ wr.heap.size := HBL.out.size
        clear haa
        go_wp2_with fail
        refine (HZ.out _).mono ?_
        rintro e w1 ⟨rfl, hb⟩
        have HB1 := Lib.hid (HBL.out.trans (hb.mono hN))
        clear hb c0 c1
        by_cases hneg : z < 0
        · have HSS := Lib.hid (show szPs left es = -1 by rw [HE.out, HG.out, HD.out, szTo, ← HZZ.out, if_pos hneg])
          go_wp2_with fail
          go_ret
          exact ⟨by rw [HSS.out]; rfl, HB1.out⟩
        · have hz1 : z ≤ 1048576 := by have := HSZ.out (by omega); omega
          go_wp2_with fail
          go_roundw
          case rel => exact ⟨k + 1, z, by omega, by go_num, rfl, by omega, hz1, by rw [HG.out, HD.out, szTo, ← HZZ.out, if_neg (by omega)], HB1.out⟩
          case measure => simp [intOf]; omega
      · have HSS := Lib.hid (show szPs left es = L by rw [HE.out, HG.out, List.drop_eq_nil_of_le (by have := HN.out; omega)]; rfl)
        clear haa
        go_wp2
        go_ret
        exact ⟨by rw [HSS.out]; rfl, HBL.out⟩

end Go.Proofs.Ytiklpejcfdhdkaa.ArrS
