
/- The model's function that tells a transducer, or that it is too great.
   Conditions: the transducer is one that has been put together. -/
import Derived.Test.YtjoiaenkmmmmpaaTrimKit
namespace Go.Proofs.Ytjoiaenkmmmmpaa.ToldTr
set_option linter.unusedVariables false
set_option linter.unusedSimpArgs false
set_option maxRecDepth 100000
open Go.RowKit Mem Copy Rel Heap MarkRow Edg EdgCopy EdgEq TrHeap TrLawKit TrValid TrImplValid TurnImpl TurnSpec

/-- A transducer that may be told. -/
def fitsT (A : List Bool) (N : List E) : Bool := decide (A.length ≤ 40) && decide (N.length ≤ 200)

set_option maxHeartbeats 2000000 in
theorem told (K : Int) (va vn : Value) (A : List Bool) (N : List E) (w : World) (B : Nat) (h : BuiltT w B va vn A N) (hA : A.length ≤ 100000) (hN : N.length ≤ 100000) :
    Calls Try.prog 54 #[.agg #[.int .i64 K, va, vn]] w fun e w' => Below w.heap.size w w' ∧
      ((fitsT A N = true ∧ e = .returned (.tuple #[.agg #[.int .i64 K, va, vn], .int .i64 0])) ∨ (fitsT A N = false ∧ e = .returned (.tuple #[.agg #[.int .i64 0, .slice none 0 0, .slice none 0 0], .int .i64 3]))) := by
  obtain ⟨a, n, c, rfl, HN1⟩ := h.acc.shape'
  obtain ⟨b, m, d, rfl, HM1⟩ := h.edg.shape'
  obtain rfl : n = A.length := by rw [HN1.out, List.length_map]
  obtain rfl : m = N.length := HM1.out
  obtain ⟨n, hn⟩ : ∃ n, n = A.length := ⟨_, rfl⟩
  obtain ⟨m, hm⟩ : ∃ m, m = N.length := ⟨_, rfl⟩
  have HF := Lib.hid (show fitsT A N = (decide (n ≤ 40) && decide (m ≤ 200)) by unfold fitsT; rw [hn, hm])
  rw [← hn] at hA ⊢
  rw [← hm] at hN ⊢
  have hk0 : K2 w #[.int .i64 K, .slice a n c, .slice b m d] ((w.alloc (.cells #[.int .i64 K, .slice a n c, .slice b m d] 30)).alloc Z3) := Below.refl _ _
  have HK0 := Lib.hid hk0
  clear h HN1 HM1 hn hm hk0
  by_cases h1 : n ≤ 40
  · have d1 : ((n : Int) > 40) = False := by simp; omega
    have d1' : decide ((40 : Int) < (n : Int)) = false := by simp; omega
    by_cases h2 : m ≤ 200
    · have d2 : decide ((200 : Int) < (m : Int)) = false := by simp; omega
      have HE := Lib.hid (show fitsT A N = true by rw [HF.out, decide_eq_true h1, decide_eq_true h2]; rfl)
      clear h1 h2
      go_enter Try.func54, Try.ntmps54
      go_upto_region 1 with fail
      generalize hW : (w.alloc (.cells #[.int .i64 K, .slice a n c, .slice b m d] 30)).alloc (.cells #[Value.int .i64 0, .slice none 0 0, .slice none 0 0] 30) = W at HK0 ⊢
      clear hW
      obtain ⟨r0, r1, r2, s0, s1, s2⟩ := K2.cells HK0.out
      obtain ⟨y0, y1, y2⟩ := K2.boxc HK0.out
      have hl := K2.size HK0.out
      go_wp2
      obtain ⟨g0, g1, g2⟩ := put3_cells (a := .int .i64 K) (b := .slice a n c) (c := .slice b m d) (K2.res HK0.out)
      refine bodyPost_ret (v := .tuple #[.agg #[.int .i64 K, .slice a n c, .slice b m d], .int .i64 0]) (by simp [results, Try.results54, go_sem, g0, g1, g2]) rfl ⟨put3_below (K2.base HK0.out) (by omega), .inl ⟨HE.out, rfl⟩⟩
    · have d2 : decide ((200 : Int) < (m : Int)) = true := by simp; omega
      have HE := Lib.hid (show fitsT A N = false by rw [HF.out, decide_eq_true h1, decide_eq_false h2]; rfl)
      clear h1 h2
      go_enter Try.func54, Try.ntmps54
      go_upto_region 1 with fail
      generalize hW : (w.alloc (.cells #[.int .i64 K, .slice a n c, .slice b m d] 30)).alloc (.cells #[Value.int .i64 0, .slice none 0 0, .slice none 0 0] 30) = W at HK0 ⊢
      clear hW
      obtain ⟨r0, r1, r2, s0, s1, s2⟩ := K2.cells HK0.out
      obtain ⟨y0, y1, y2⟩ := K2.boxc HK0.out
      have hl := K2.size HK0.out
      go_wp2
      obtain ⟨g0, g1, g2⟩ := put3_cells (a := .int .i64 0) (b := .slice none 0 0) (c := .slice none 0 0) (K2.res HK0.out)
      refine bodyPost_ret (v := .tuple #[.agg #[.int .i64 0, .slice none 0 0, .slice none 0 0], .int .i64 3]) (by simp [results, Try.results54, go_sem, g0, g1, g2]) rfl ⟨put3_below (K2.base HK0.out) (by omega), .inr ⟨HE.out, rfl⟩⟩
  · have d1' : decide ((40 : Int) < (n : Int)) = true := by simp; omega
    have HE := Lib.hid (show fitsT A N = false by rw [HF.out, decide_eq_false h1]; rfl)
    clear h1
    go_enter Try.func54, Try.ntmps54
    go_upto_region 1 with fail
    generalize hW : (w.alloc (.cells #[.int .i64 K, .slice a n c, .slice b m d] 30)).alloc (.cells #[Value.int .i64 0, .slice none 0 0, .slice none 0 0] 30) = W at HK0 ⊢
    clear hW
    obtain ⟨r0, r1, r2, s0, s1, s2⟩ := K2.cells HK0.out
    obtain ⟨y0, y1, y2⟩ := K2.boxc HK0.out
    have hl := K2.size HK0.out
    go_wp2
    obtain ⟨g0, g1, g2⟩ := put3_cells (a := .int .i64 0) (b := .slice none 0 0) (c := .slice none 0 0) (K2.res HK0.out)
    refine bodyPost_ret (v := .tuple #[.agg #[.int .i64 0, .slice none 0 0, .slice none 0 0], .int .i64 3]) (by simp [results, Try.results54, go_sem, g0, g1, g2]) rfl ⟨put3_below (K2.base HK0.out) (by omega), .inr ⟨HE.out, rfl⟩⟩
end Go.Proofs.Ytjoiaenkmmmmpaa.ToldTr
