
/- What the model's and the program's TrimTransducer answer: a transducer in memory of its own, and a code.
   Conditions: the transducer is read as XEdg's text says. -/
import Derived.Test.YtjoiaenkmmmmpaaTurnImpl
import Derived.Test.YtjoiaenkmmmmpaaTurnSpec
import Derived.Test.YtjoiaenkmmmmpaaTrimAns
namespace Go.Proofs.Ytjoiaenkmmmmpaa.TrTrimTransducer
set_option linter.unusedVariables false
set_option linter.unusedSimpArgs false
set_option maxRecDepth 100000
open Go.RowKit Mem Copy Rel Heap MarkRow Edg EdgCopy EdgEq TrHeap TrLawKit TrValid TrImplValid TurnImpl TurnSpec TrimAns

noncomputable def ansK (t : T) : Int := if okT t = true then (trimT t).start else 0
noncomputable def ansC (t : T) : Int := if okT t = true then 0 else 1
noncomputable def ansA (t : T) : List Bool := if okT t = true then (trimT t).accept else []
noncomputable def ansN (t : T) : List E := if okT t = true then (trimT t).edges else []
theorem ans_len (t : T) : (ansA t).length ≤ 1000 ∧ (ansN t).length ≤ 1000 := by
  unfold ansA ansN
  by_cases h : okT t = true
  · rw [if_pos h, if_pos h]; exact short_TrimTransducer t h
  · rw [if_neg h, if_neg h]; exact ⟨Nat.zero_le _, Nat.zero_le _⟩
theorem none_built (w : World) (B : Nat) : BuiltT w B (.slice none 0 0) (.slice none 0 0) [] [] := ⟨Lst.nil _ _ _, LstE.nil _ _, fun i hi => absurd hi (Nat.not_lt_zero i), by simp⟩

set_option maxHeartbeats 2000000 in
theorem specAns (v : Value) (t : T) (w : World) (B : Nat) (h : TrAt w B v t) (hB : B ≤ w.heap.size) :
    Calls Try.prog 31 #[v] w fun e w' => ∃ va vn, e = .returned (.tuple #[.agg #[.int .i64 (ansK t), va, vn], .int .i64 (ansC t)]) ∧ BuiltT w' w.heap.size va vn (ansA t) (ansN t) ∧ Below w.heap.size w w' := by
  obtain ⟨va, vn, rfl, hacc, hed⟩ := h
  obtain ⟨c, hc⟩ : ∃ c : Array Value, c = #[.int .i64 t.start, va, vn] := ⟨_, rfl⟩
  have hk0 : K2 w c ((w.alloc (.cells c 30)).alloc Z3) := Below.refl _ _
  have hP : TrPtr ((w.alloc (.cells c 30)).alloc Z3) B w.heap.size t va vn := ⟨by rw [hc]; exact (Kept3.new _ _ _ _ _).box _, hacc.below (K2.base hk0) hB, hed.below (K2.base hk0) hB⟩
  have HV := Lib.hid (specOk t va vn w.heap.size _ B hP)
  have HT := Lib.hid (fun hok : okT t = true => trimP t hok va vn w.heap.size _ B hP (Nat.le_trans hB (K2.base hk0).size) (by rw [K2.size2]; omega))
  have HK0 := Lib.hid hk0
  clear hk0 hP hacc hed
  cases hok : okT t with
  | false =>
    have HA := Lib.hid (show ansK t = 0 ∧ ansC t = 1 ∧ ansA t = [] ∧ ansN t = [] by unfold ansK ansC ansA ansN; rw [hok]; simp)
    rw [hok] at HV
    rw [HA.out.1, HA.out.2.1, HA.out.2.2.1, HA.out.2.2.2]
    clear HT HA hok
    go_enter Try.func31, Try.ntmps31
    go_wp2_with fail
    rw [← hc]
    clear hc
    refine HV.out.mono ?_
    rintro e w1 ⟨rfl, rfl⟩
    obtain ⟨r0, r1, r2, s0, s1, s2⟩ := K2.cells HK0.out
    have hl := K2.size HK0.out
    have HRES := Lib.hid (K2.res HK0.out)
    obtain ⟨W, hW⟩ : ∃ W, W = (w.alloc (.cells c 30)).alloc Z3 := ⟨_, rfl⟩
    rw [← hW] at r0 r1 r2 s0 s1 s2 hl HRES HK0
    rw [← hW]
    clear hW
    go_wp2
    obtain ⟨g0, g1, g2⟩ := put3_cells (a := .int .i64 0) (b := .slice none 0 0) (c := .slice none 0 0) HRES.out
    refine bodyPost_ret (v := .tuple #[.agg #[.int .i64 0, .slice none 0 0, .slice none 0 0], .int .i64 1]) (by simp [results, Try.results31, go_sem, g0, g1, g2]) rfl ⟨.slice none 0 0, .slice none 0 0, rfl, none_built _ _, put3_below (K2.base HK0.out) (by omega)⟩
  | true =>
    have HT := Lib.hid (HT.out hok)
    have HA := Lib.hid (show ansK t = (trimT t).start ∧ ansC t = 0 ∧ ansA t = (trimT t).accept ∧ ansN t = (trimT t).edges by unfold ansK ansC ansA ansN; rw [hok]; simp)
    rw [hok] at HV
    rw [HA.out.1, HA.out.2.1, HA.out.2.2.1, HA.out.2.2.2]
    obtain ⟨A, hA⟩ : ∃ A, A = (trimT t).accept := ⟨_, rfl⟩
    obtain ⟨N, hN⟩ : ∃ N, N = (trimT t).edges := ⟨_, rfl⟩
    rw [← hA, ← hN] at HT
    rw [← hA, ← hN]
    clear HA hok hA hN
    go_enter Try.func31, Try.ntmps31
    go_wp2_with fail
    rw [← hc]
    clear hc
    refine HV.out.mono ?_
    rintro e w1 ⟨rfl, rfl⟩
    go_wp2_with fail
    refine HT.out.mono ?_
    rintro e w3 ⟨ua, un, rfl, hbu, hb⟩
    have HK3 := Lib.hid (K2.step HK0.out hb)
    have HBU := Lib.hid (show BuiltT w3 (w.heap.size + 2) ua un A N by have := hbu; rwa [K2.size2] at this)
    obtain ⟨a4, n4, c4, rfl, -⟩ := hbu.acc.shape'
    obtain ⟨b4, m4, d4, rfl, -⟩ := hbu.edg.shape'
    obtain ⟨r0, r1, r2, s0, s1, s2⟩ := K2.cells HK3.out
    have hl := K2.size HK3.out
    have HRES := Lib.hid (K2.res HK3.out)
    clear hb hbu HK0 HT HV
    go_wp2
    obtain ⟨g0, g1, g2⟩ := put3_cells (a := .int .i64 ((trimT t).start)) (b := .slice a4 n4 c4) (c := .slice b4 m4 d4) HRES.out
    refine bodyPost_ret (v := .tuple #[.agg #[.int .i64 ((trimT t).start), .slice a4 n4 c4, .slice b4 m4 d4], .int .i64 0]) (by simp [results, Try.results31, go_sem, g0, g1, g2]) rfl ⟨.slice a4 n4 c4, .slice b4 m4 d4, rfl, BuiltT.mono (BuiltT.put3 HBU.out (by omega)) (by omega), put3_below (K2.base HK3.out) (by omega)⟩

set_option maxHeartbeats 2000000 in
theorem implAns (v : Value) (t : T) (w : World) (B : Nat) (h : TrAt w B v t) (hB : B ≤ w.heap.size) :
    Calls Try.prog 32 #[v] w fun e w' => ∃ va vn, e = .returned (.tuple #[.agg #[.int .i64 (ansK t), va, vn], .int .i64 (ansC t)]) ∧ BuiltT w' w.heap.size va vn (ansA t) (ansN t) ∧ Below w.heap.size w w' := by
  have HV := Lib.hid (fun W (hb : Below w.heap.size w W) => implValid v t W B (h.below hb hB) (Nat.le_trans hB hb.size))
  have HT := Lib.hid (fun (hok : okT t = true) W (hb : Below w.heap.size w W) => trimI v t W B (h.below hb hB) (Nat.le_trans hB hb.size) hok)
  obtain ⟨va, vn, rfl, hacc, hed⟩ := h
  obtain ⟨aa, ba, oa, ca, rfl, -, -, -⟩ := hacc
  obtain ⟨ab, bb, ob, cb, rfl, -, -, -⟩ := hed
  obtain ⟨n, hn⟩ : ∃ n, n = t.accept.length := ⟨_, rfl⟩
  obtain ⟨q, hq⟩ : ∃ q, q = t.edges.length := ⟨_, rfl⟩
  rw [← hn, ← hq] at HV HT
  rw [← hn, ← hq]
  have HK0 := Lib.hid (show K2 w #[.int .i64 t.start, .slice aa n ca, .slice ab q cb] ((w.alloc (.cells #[.int .i64 t.start, .slice aa n ca, .slice ab q cb] 30)).alloc Z3) from Below.refl _ _)
  clear hn hq
  cases hok : okT t with
  | false =>
    have HA := Lib.hid (show ansK t = 0 ∧ ansC t = 1 ∧ ansA t = [] ∧ ansN t = [] by unfold ansK ansC ansA ansN; rw [hok]; simp)
    rw [hok] at HV
    rw [HA.out.1, HA.out.2.1, HA.out.2.2.1, HA.out.2.2.2]
    clear HT HA hok
    go_enter Try.func32, Try.ntmps32
    go_wp2_with fail
    refine (HV.out _ (K2.base HK0.out)).mono ?_
    rintro e w1 ⟨rfl, hb⟩
    have HK1 := Lib.hid (K2.step HK0.out hb)
    obtain ⟨r0, r1, r2, s0, s1, s2⟩ := K2.cells HK1.out
    have hl := K2.size HK1.out
    have HRES := Lib.hid (K2.res HK1.out)
    clear hb HK0 HV
    go_wp2
    obtain ⟨g0, g1, g2⟩ := put3_cells (a := .int .i64 0) (b := .slice none 0 0) (c := .slice none 0 0) HRES.out
    refine bodyPost_ret (v := .tuple #[.agg #[.int .i64 0, .slice none 0 0, .slice none 0 0], .int .i64 1]) (by simp [results, Try.results32, go_sem, g0, g1, g2]) rfl ⟨.slice none 0 0, .slice none 0 0, rfl, none_built _ _, put3_below (K2.base HK1.out) (by omega)⟩
  | true =>
    have HT := Lib.hid (HT.out hok)
    have HA := Lib.hid (show ansK t = (trimT t).start ∧ ansC t = 0 ∧ ansA t = (trimT t).accept ∧ ansN t = (trimT t).edges by unfold ansK ansC ansA ansN; rw [hok]; simp)
    rw [hok] at HV
    rw [HA.out.1, HA.out.2.1, HA.out.2.2.1, HA.out.2.2.2]
    obtain ⟨A, hA⟩ : ∃ A, A = (trimT t).accept := ⟨_, rfl⟩
    obtain ⟨N, hN⟩ : ∃ N, N = (trimT t).edges := ⟨_, rfl⟩
    rw [← hA, ← hN] at HT
    rw [← hA, ← hN]
    clear HA hok hA hN
    go_enter Try.func32, Try.ntmps32
    go_wp2_with fail
    refine (HV.out _ (K2.base HK0.out)).mono ?_
    rintro e w1 ⟨rfl, hb⟩
    have HK1 := Lib.hid (K2.step HK0.out hb)
    obtain ⟨y0, y1, y2⟩ := K2.boxc HK1.out
    have hl1 := K2.size HK1.out
    clear hb HV
    go_wp2_with fail
    refine (HT.out _ (K2.base HK1.out)).mono ?_
    rintro e w3 ⟨ua, un, rfl, hbu, hb⟩
    have HK3 := Lib.hid (K2.step HK1.out hb)
    have HBU := Lib.hid (hbu.mono (K2.size HK1.out))
    obtain ⟨a4, n4, c4, rfl, -⟩ := hbu.acc.shape'
    obtain ⟨b4, m4, d4, rfl, -⟩ := hbu.edg.shape'
    obtain ⟨r0, r1, r2, s0, s1, s2⟩ := K2.cells HK3.out
    have hl := K2.size HK3.out
    have HRES := Lib.hid (K2.res HK3.out)
    clear hb hbu HK0 HT HK1 y0 y1 y2 hl1
    go_wp2
    obtain ⟨g0, g1, g2⟩ := put3_cells (a := .int .i64 ((trimT t).start)) (b := .slice a4 n4 c4) (c := .slice b4 m4 d4) HRES.out
    refine bodyPost_ret (v := .tuple #[.agg #[.int .i64 ((trimT t).start), .slice a4 n4 c4, .slice b4 m4 d4], .int .i64 0]) (by simp [results, Try.results32, go_sem, g0, g1, g2]) rfl ⟨.slice a4 n4 c4, .slice b4 m4 d4, rfl, BuiltT.mono (BuiltT.put3 HBU.out (by omega)) (by omega), put3_below (K2.base HK3.out) (by omega)⟩
end Go.Proofs.Ytjoiaenkmmmmpaa.TrTrimTransducer
