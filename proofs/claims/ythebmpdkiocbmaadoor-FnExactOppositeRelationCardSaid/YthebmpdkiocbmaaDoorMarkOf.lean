
/- What is built is a relation that laws can mark.
   Conditions: none. -/
import Derived.Test.YthebmpdkiocbmaaDoorMarkRel
import Derived.Test.YthebmpdkiocbmaaDoorBld
namespace Go.Proofs.YthebmpdkiocbmaaDoor.MarkOf
set_option linter.unusedVariables false
set_option linter.unusedSimpArgs false
open Go.RowKit Mem Copy Rel MarkRow MarkBool MarkRows MarkRel Heap Bld

def lenF (nx : List (List Int)) (i : Nat) : Nat := (nx.getD i []).length
def intF (nx : List (List Int)) (i c : Nat) : Value := .int .i64 ((nx.getD i []).getD c 0)
def boolF (acc : List Bool) (i : Nat) : Value := .bool (acc.getD i false)

theorem built_relF {w : World} {B : Nat} {va vn : Value} {acc : List Bool} {nx : List (List Int)} (h : Built w B va vn acc nx) :
    ∃ V, RelF w B va vn acc.length (boolF acc) nx.length V (lenF nx) (intF nx) := by
  obtain ⟨items, h1, h2, h3⟩ := h.rows
  have hlen : items.length = nx.length := by have := congrArg List.length h3; simpa using this
  have hrow : ∀ i (hi : i < items.length), items[i].2 = (nx.getD i []).map (Value.int .i64) := by
    intro i hi
    have := congrArg (fun x => x[i]?) h3
    have hi' : i < nx.length := by omega
    simp [hi, hi'] at this
    rw [this]; simp [List.getD, hi']
  refine ⟨fun i => ((items.map Prod.fst).getD i (.int .i64 0)), ?_, ?_, fun i hi => ?_, fun i j hi hj hne h0 h0' k hk => ?_⟩
  · have h4 := h.acc
    have e : (acc.map Value.bool).length = acc.length := by simp
    have := Row.of_owns h4 (boolF acc) (fun i hi => by rw [List.length_map] at hi; simp [boolF, List.getD, hi])
    rwa [e] at this
  · have e : (items.map Prod.fst).length = nx.length := by rw [List.length_map, hlen]
    have := Row.of_owns h2 (fun i => ((items.map Prod.fst).getD i (.int .i64 0))) (fun i hi => by simp only [List.getD, List.getElem?_eq_getElem hi, Option.getD_some])
    rwa [e] at this
  · have hi' : i < items.length := by omega
    have hl := h1.lst items[i] (List.getElem_mem hi')
    have e1 : (items.map Prod.fst).getD i (.int .i64 0) = items[i].1 := by simp [List.getD, hi']
    have e2 := hrow i hi'
    show Row w B 2 ((items.map Prod.fst).getD i (.int .i64 0)) (lenF nx i) (intF nx i)
    rw [e1]
    have e3 : items[i].2.length = lenF nx i := by rw [e2, List.length_map]; rfl
    have := Row.of_owns hl (intF nx i) (fun c hc => by
      have hc' : c < (nx.getD i []).length := by rw [e3] at hc; exact hc
      simp only [e2, List.getElem_map]
      unfold intF
      rw [List.getD, List.getElem?_eq_getElem hc', Option.getD_some])
    rwa [e3] at this
  · have hi' : i < items.length := by omega
    have hj' : j < items.length := by omega
    have e1 : (items.map Prod.fst).getD i (.int .i64 0) = items[i].1 := by simp [List.getD, hi']
    have e2 : (items.map Prod.fst).getD j (.int .i64 0) = items[j].1 := by simp [List.getD, hj']
    show ((items.map Prod.fst).getD j (.int .i64 0)).ownBlock ≠ some k
    have hk' : items[i].1.ownBlock = some k := by rw [← e1]; exact hk
    rw [e2]
    rcases Nat.lt_or_gt_of_ne hne with h | h
    · exact List.pairwise_iff_getElem.1 h1.apart i j hi' hj' h k hk'
    · intro e
      exact List.pairwise_iff_getElem.1 h1.apart j i hj' hi' h k e hk'

/-- So is a law's copy of its argument, and its blocks lie between two numbers. -/
theorem own_relF {W : World} {M : Nat} {r : R} (h : Rel.Own W M r) :
    ∃ V, RelF W M (.slice (some ⟨M, 0, none⟩) r.accept.length r.accept.length) (.slice (some ⟨M + 1, 0, none⟩) r.next.length r.next.length) r.accept.length (boolF r.accept) r.next.length V (lenF r.next) (intF r.next) ∧
      ∀ b, InRel (.slice (some ⟨M, 0, none⟩) r.accept.length r.accept.length) r.accept.length r.next.length V (lenF r.next) b → M ≤ b ∧ b < M + 2 + r.next.length := by
  refine ⟨fun i => .slice (some ⟨M + 1 + 1 + i, 0, none⟩) (r.next.getD i []).length (r.next.getD i []).length, ⟨Row.of_row h.fresh.accept, ⟨Row.mono (Row.of_row h.fresh.next.1) (Nat.le_succ _), fun i hi => Row.mono (Row.of_row (h.fresh.next.2 i hi)) (by omega), fun i j hi hj hne _ _ k hk e => ?_⟩⟩, fun b hb => ?_⟩
  · cases hk
    have e2 : M + 1 + 1 + j = M + 1 + 1 + i := by
      have : (some (M + 1 + 1 + j) : Option Nat) = some (M + 1 + 1 + i) := e
      injection this
    omega
  · rcases hb with ⟨-, he⟩ | ⟨i, hi, -, he⟩
    · cases he; show M ≤ M ∧ M < M + 2 + r.next.length; omega
    · cases he; show M ≤ M + 1 + 1 + i ∧ M + 1 + 1 + i < M + 2 + r.next.length; omega
end Go.Proofs.YthebmpdkiocbmaaDoor.MarkOf
