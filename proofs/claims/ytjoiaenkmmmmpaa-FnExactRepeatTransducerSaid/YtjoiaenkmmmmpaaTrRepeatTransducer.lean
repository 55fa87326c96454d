
/- What the model's and the program's RepeatTransducer answer: a transducer in memory of its own, and a code.
   Conditions: the transducer is read as XEdg's text says. -/
import Derived.Test.YtjoiaenkmmmmpaaRepAns
import Derived.Test.YtjoiaenkmmmmpaaLim2
namespace Go.Proofs.Ytjoiaenkmmmmpaa.TrRepeatTransducer
set_option linter.unusedVariables false
set_option linter.unusedSimpArgs false
set_option maxRecDepth 100000
open Go.RowKit Mem Copy Rel Heap MarkRow Edg EdgCopy EdgEq TrHeap TrLawKit TrValid TrImplValid TurnImpl TurnSpec TrReach AddSpec ToldTr RepSpec

def ansK (t : T) : Int := 0
def ansC (t : T) : Int := RepAns.ansC t
def ansA (t : T) : List Bool := RepAns.ansA t
def ansN (t : T) : List E := RepAns.ansN t
theorem ans_len (t : T) : (ansA t).length ≤ 1000 ∧ (ansN t).length ≤ 1000 := RepAns.ans_len t
theorem specAns (v : Value) (t : T) (w : World) (B : Nat) (h : TrAt w B v t) (hB : B ≤ w.heap.size) :
    Calls Try.prog 23 #[v] w fun e w' => ∃ va vn, e = .returned (.tuple #[.agg #[.int .i64 (ansK t), va, vn], .int .i64 (ansC t)]) ∧ BuiltT w' w.heap.size va vn (ansA t) (ansN t) ∧ Below w.heap.size w w' :=
  RepAns.specAns v t w B h hB

theorem inside {t : T} (hok : okT t = true) : Inside t.accept.length t.edges := by
  obtain ⟨hn1, hn2, hq, hs0, hs1, hall⟩ := ok_parts hok
  intro k hk
  have h1 := edge_ok hall k hk
  unfold edgeOk at h1
  simp only [Bool.and_eq_true] at h1
  obtain ⟨⟨⟨h2, h3⟩, -⟩, -⟩ := h1
  unfold Columns.inB at h2 h3
  have h4 := of_decide_eq_true h2
  have h5 := of_decide_eq_true h3
  exact ⟨h4.1, by omega, h5.1, by omega⟩

set_option maxHeartbeats 2000000 in
theorem implAns (v : Value) (t : T) (w : World) (B : Nat) (h : TrAt w B v t) (hB : B ≤ w.heap.size) :
    Calls Try.prog 24 #[v] w fun e w' => ∃ va vn, e = .returned (.tuple #[.agg #[.int .i64 (ansK t), va, vn], .int .i64 (ansC t)]) ∧ BuiltT w' w.heap.size va vn (ansA t) (ansN t) ∧ Below w.heap.size w w' := by
  have HV := Lib.hid (fun W (hb : Below w.heap.size w W) => implValid v t W B (h.below hb hB) (Nat.le_trans hB hb.size))
  obtain ⟨va, vn, rfl, hacc, hed⟩ := h
  have HACC := Lib.hid hacc
  have HED := Lib.hid hed
  obtain ⟨aa, ba, oa, ca, rfl, -, -, -⟩ := hacc
  obtain ⟨ab, bb, ob, cb, rfl, -, -, -⟩ := hed
  have HLM := Lib.hid (fun (hok : okT t = true) W (hb : K2 w #[.int .i64 t.start, .slice aa t.accept.length ca, .slice ab t.edges.length cb] W) =>
    Lim2.limited t aa ab t.accept.length ca t.edges.length cb w.heap.size W B ⟨⟨(K2.boxc hb).1, (K2.boxc hb).2.1, (K2.boxc hb).2.2, by have := K2.size hb; omega⟩, HACC.out.below (K2.base hb) hB, HED.out.below (K2.base hb) hB⟩ (Nat.le_trans hB (K2.base hb).size) hok (inside hok))
  have HC0 := Lib.hid (show okT t = false → ansC t = 1 ∧ ansA t = [] ∧ ansN t = [] from fun hok => by unfold ansC ansA ansN RepAns.ansC RepAns.ansA RepAns.ansN; rw [hok]; simp)
  have HC1 := Lib.hid (show okT t = true → fitsT (repA t) (repN t) = true → ansC t = 0 ∧ ansA t = repA t ∧ ansN t = repN t from fun hok hf => by unfold ansC ansA ansN RepAns.ansC RepAns.ansA RepAns.ansN; rw [hok, hf]; simp)
  have HC2 := Lib.hid (show okT t = true → fitsT (repA t) (repN t) = false → ansC t = 3 ∧ ansA t = [] ∧ ansN t = [] from fun hok hf => by unfold ansC ansA ansN RepAns.ansC RepAns.ansA RepAns.ansN; rw [hok, hf]; simp)
  obtain ⟨n, hn⟩ : ∃ n, n = t.accept.length := ⟨_, rfl⟩
  obtain ⟨q, hq⟩ : ∃ q, q = t.edges.length := ⟨_, rfl⟩
  obtain ⟨C, hC⟩ : ∃ C, C = ansC t := ⟨_, rfl⟩
  obtain ⟨A, hA⟩ : ∃ A, A = ansA t := ⟨_, rfl⟩
  obtain ⟨N, hN⟩ : ∃ N, N = ansN t := ⟨_, rfl⟩
  rw [← hn, ← hq] at HV HLM
  rw [← hC, ← hA, ← hN] at HC0 HC1 HC2
  rw [← hn, ← hq, ← hC, ← hA, ← hN]
  have HK0 := Lib.hid (show K2 w #[.int .i64 t.start, .slice aa n ca, .slice ab q cb] ((w.alloc (.cells #[.int .i64 t.start, .slice aa n ca, .slice ab q cb] 30)).alloc Z3) from Below.refl _ _)
  have hmf : ∀ (fn : Fn) (first cap : Array Value) (w : World), (Instr.makeFunc fn first cap).run Try.prog w = .ok (.func fn first cap) w := fun _ _ _ _ => rfl
  clear hn hq hC hA hN HACC HED
  show Calls _ _ _ _ fun e w' => ∃ va vn, e = .returned (.tuple #[.agg #[.int .i64 0, va, vn], .int .i64 C]) ∧ BuiltT w' w.heap.size va vn A N ∧ Below w.heap.size w w'
  cases hok : okT t with
  | false =>
    obtain ⟨rfl, rfl, rfl⟩ := HC0.out hok
    rw [hok] at HV
    clear HLM HC0 HC1 HC2 hok
    go_enter Try.func24, Try.ntmps24
    go_wp2_with fail
    refine (HV.out _ (K2.base HK0.out)).mono ?_
    rintro e w1 ⟨rfl, hb⟩
    have HK1 := Lib.hid (K2.step HK0.out hb)
    obtain ⟨r0, r1, r2, s0, s1, s2⟩ := K2.cells HK1.out
    have hl := K2.size HK1.out
    have HRES := Lib.hid (K2.res HK1.out)
    clear hb HK0 HV
    go_wp2
    obtain ⟨g0, g1, g2⟩ := put3_cells (a := .int .i64 0) (b := .slice none 0 0) (c := .slice none 0 0) HRES.out
    refine bodyPost_ret (v := .tuple #[.agg #[.int .i64 0, .slice none 0 0, .slice none 0 0], .int .i64 1]) (by simp [results, Try.results24, go_sem, g0, g1, g2]) rfl ⟨.slice none 0 0, .slice none 0 0, rfl, RepAns.none_built _ _, put3_below (K2.base HK1.out) (by omega)⟩
  | true =>
    have HL := Lib.hid (HLM.out hok)
    have HC1 := Lib.hid (HC1.out hok)
    have HC2 := Lib.hid (HC2.out hok)
    rw [hok] at HV
    clear HLM HC0 hok
    go_enter Try.func24, Try.ntmps24
    go_wp2_with fail
    refine (HV.out _ (K2.base HK0.out)).mono ?_
    rintro e w1 ⟨rfl, hb⟩
    have HK1 := Lib.hid (K2.step HK0.out hb)
    have hl1 := K2.size HK1.out
    clear hb HV
    go_wp2_with fail
    refine (HL.out _ HK1.out).mono ?_
    rintro e w3 ⟨hb, ⟨hf, ua, un, rfl, hbu⟩ | ⟨hf, rfl⟩⟩
    · obtain ⟨rfl, rfl, rfl⟩ := HC1.out hf
      have HK3 := Lib.hid (K2.step HK1.out hb)
      have HBU := Lib.hid (hbu.mono (K2.size HK1.out))
      obtain ⟨a4, n4, c4, rfl, -⟩ := hbu.acc.shape'
      obtain ⟨b4, m4, d4, rfl, -⟩ := hbu.edg.shape'
      obtain ⟨r0, r1, r2, s0, s1, s2⟩ := K2.cells HK3.out
      have hl := K2.size HK3.out
      have HRES := Lib.hid (K2.res HK3.out)
      clear hb hbu HK0 HL HC1 HC2 HK1 hl1 hf
      go_wp2
      obtain ⟨g0, g1, g2⟩ := put3_cells (a := .int .i64 0) (b := .slice a4 n4 c4) (c := .slice b4 m4 d4) HRES.out
      refine bodyPost_ret (v := .tuple #[.agg #[.int .i64 0, .slice a4 n4 c4, .slice b4 m4 d4], .int .i64 0]) (by simp [results, Try.results24, go_sem, g0, g1, g2]) rfl ⟨.slice a4 n4 c4, .slice b4 m4 d4, rfl, BuiltT.mono (BuiltT.put3 HBU.out (by omega)) (by omega), put3_below (K2.base HK3.out) (by omega)⟩
    · obtain ⟨rfl, rfl, rfl⟩ := HC2.out hf
      have HK3 := Lib.hid (K2.step HK1.out hb)
      obtain ⟨r0, r1, r2, s0, s1, s2⟩ := K2.cells HK3.out
      have hl := K2.size HK3.out
      have HRES := Lib.hid (K2.res HK3.out)
      clear hb HK0 HL HC1 HC2 HK1 hl1 hf
      go_wp2
      obtain ⟨g0, g1, g2⟩ := put3_cells (a := .int .i64 0) (b := .slice none 0 0) (c := .slice none 0 0) HRES.out
      refine bodyPost_ret (v := .tuple #[.agg #[.int .i64 0, .slice none 0 0, .slice none 0 0], .int .i64 3]) (by simp [results, Try.results24, go_sem, g0, g1, g2]) rfl ⟨.slice none 0 0, .slice none 0 0, rfl, RepAns.none_built _ _, put3_below (K2.base HK3.out) (by omega)⟩
end Go.Proofs.Ytjoiaenkmmmmpaa.TrRepeatTransducer
