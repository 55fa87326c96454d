
/- The state of a law's walk over a relation that is answered, beside what the law's arguments are: what is kept when a part of it is marked.
   Conditions: stated at each theorem. -/
import Derived.Test.YtcpcbmappcndcaaDoorFX9
import Derived.Test.YtcpcbmappcndcaaDoorFX2
import Derived.Test.YtcpcbmappcndcaaDoorFX4
import Derived.Lib.SmallJoins
import Derived.Deep.Matrix
import Derived.Deep.Grids
namespace Go.Proofs.YtcpcbmappcndcaaDoor.ResKit
set_option linter.unusedVariables false
set_option linter.unusedSimpArgs false
open Go.RowKit Mem Copy Rel Valid Heap Bld MarkRow MarkBool MarkRows MarkRel MarkOf ToL TidyAuto TidyRight SpecRight SpecTidyRel LawKit

/-- What is kept by all that is laid behind block Lo. -/
def Keeps (Lo : Nat) (E : World → Prop) : Prop := ∀ W W', E W → Below Lo W W' → E W'

/-- The law's state: what its arguments are (E), the model's answer, the program's answer. -/
structure St (w : World) (Lo : Nat) (E : World → Prop) (P : Nat) (K : Int) (wa wn : Value) (A : List Bool) (N : List (List Int)) (L : Nat) (ga gn : Value) (V : Nat → Value) (Q : Nat) (fb : Nat → Value) (f : Nat → Nat → Value) (W : World) : Prop where
  base : Below w.heap.size w W
  ext : E W
  wk : WK P K wa wn A N W
  relf : RelF W L ga gn A.length fb N.length V (lenF N) f
  gb : Kept W Q (.int .i64 K) (.int .i64 0) ga gn
  out : ¬ InRel ga A.length N.length V (lenF N) Q
  hPL : P < L
  hLo : Lo ≤ P
  hwL : w.heap.size ≤ Lo
  hLQ : L ≤ Q

section
variable {w : World} {Lo : Nat} {E : World → Prop} {P : Nat} {K : Int} {wa wn : Value} {A : List Bool} {N : List (List Int)} {L : Nat} {ga gn : Value} {V : Nat → Value} {Q : Nat} {fb : Nat → Value} {f : Nat → Nat → Value} {W W' : World}
theorem St.lL (h : St w Lo E P K wa wn A N L ga gn V Q fb f W) : L ≤ W.heap.size := Nat.le_of_lt (Nat.lt_of_le_of_lt h.hLQ h.gb.lt)
theorem St.step (hE : Keeps Lo E) (h : St w Lo E P K wa wn A N L ga gn V Q fb f W) (hb : Below W.heap.size W W') : St w Lo E P K wa wn A N L ga gn V Q fb f W' :=
  ⟨base_step h.base hb, hE _ _ h.ext (hb.mono (by have := h.lL; have := h.hPL; have := h.hLo; omega)), h.wk.step hb, h.relf.below hb, h.gb.step hb, h.out, h.hPL, h.hLo, h.hwL, h.hLQ⟩
theorem St.drew (hE : Keeps Lo E) (h : St w Lo E P K wa wn A N L ga gn V Q fb f W) : St w Lo E P K wa wn A N L ga gn V Q fb f W.drew := h.step hE ((Below.refl _ _).drew)
/-- What lies between the two answers is marked. -/
theorem St.markX (hE : Keeps Lo E) {S : Nat → Prop} (h : St w Lo E P K wa wn A N L ga gn V Q fb f W) (ho : Only S W W') (hS : ∀ b, S b → P < b ∧ b < L) : St w Lo E P K wa wn A N L ga gn V Q fb f W' :=
  have hbP : Below (P + 1) W W' := ho.below (fun b hb => by have := hS b hb; omega) (by have := h.lL; have := h.hPL; omega)
  ⟨h.base.trans (ho.below (fun b hb => by have := hS b hb; have := h.hLo; have := h.hwL; omega) h.base.size), hE _ _ h.ext (hbP.mono (by have := h.hLo; omega)),
   h.wk.low hbP, relF_only h.relf ho (fun b hb => by have := hS b hb; omega), Kept.only h.gb ho (fun e => by have := hS _ e; have := h.hLQ; omega), h.out, h.hPL, h.hLo, h.hwL, h.hLQ⟩
/-- The program's answer is marked. -/
theorem St.markG (hE : Keeps Lo E) {fb' : Nat → Value} {f' : Nat → Nat → Value} (h : St w Lo E P K wa wn A N L ga gn V Q fb f W) (ho : Only (InRel ga A.length N.length V (lenF N)) W W') (hr : RelF W' L ga gn A.length fb' N.length V (lenF N) f') : St w Lo E P K wa wn A N L ga gn V Q fb' f' W' :=
  have hbP : Below (P + 1) W W' := ho.below (fun b hb => by have := inRel_ge h.relf hb; have := h.hPL; omega) (by have := h.lL; have := h.hPL; omega)
  ⟨h.base.trans (ho.below (fun b hb => by have := inRel_ge h.relf hb; have := h.hPL; have := h.hLo; have := h.hwL; omega) h.base.size), hE _ _ h.ext (hbP.mono (by have := h.hLo; omega)),
   h.wk.low hbP, hr, Kept.only h.gb ho h.out, h.out, h.hPL, h.hLo, h.hwL, h.hLQ⟩
end

/-! What is tidied of a small automaton. -/
theorem tidyAcc_len {l : L} (hl : l.Ok) : (tidyAcc l).length ≤ l.acc.length * 8 + 1 := by
  unfold tidyAcc tidAcc
  rw [List.length_map]
  have h1 := met_few (fits hl) (most (auM l))
  have h2 : most (auM l) ≤ (auM l).n := cn_le _ _
  have h3 : (auM l).n = (F l).length + 1 := rfl
  have h4 := places_len hl (l.acc.length * 8)
  have h5 : (F l).length = (places l (l.acc.length * 8)).length := rfl
  unfold tid
  omega
theorem tidyNext_len (l : L) : (tidyNext l).length = (tidyAcc l).length := by
  unfold tidyNext tidyAcc tidNext tidAcc
  rw [List.length_map, List.length_map]
theorem tidyNext_row {l : L} (hl : l.Ok) (i : Nat) : lenF (tidyNext l) i ≤ 26 := by
  unfold lenF
  have hk : wide l.k ≤ 26 := by have := wide_cases hl.k0 hl.k3; omega
  by_cases hi : i < (tidyNext l).length
  · rw [List.getD, List.getElem?_eq_getElem hi, Option.getD_some]
    have hm := List.getElem_mem hi
    obtain ⟨s, -, hs⟩ := List.mem_map.1 (show _ ∈ (tid (auM l) 0).map (tidRow (auM l) 0) from hm)
    rw [← hs]
    unfold tidRow
    rw [List.length_map]
    exact Nat.le_trans (nxM_len _ s) hk
  · rw [List.getD, List.getElem?_eq_none (by omega)]; exact Nat.zero_le _
theorem tidyL_sum {l : L} (hl : l.Ok) (h : (tidyAcc l).length ≤ 150) : 1 + (tidyAcc l).length + sumTo (lenF (tidyNext l)) (tidyNext l).length ≤ 5000 := by
  have h1 := sumTo_le (lenF (tidyNext l)) 26 (tidyNext l).length (tidyNext_row hl)
  have h2 := tidyNext_len l
  omega
theorem few_small {r : R} (hok : okB r = true) (hn : r.accept.length ≤ 18) : few r = true := by
  have h1 := okL hok
  have h2 := tidyAcc_len h1.1.2
  unfold few
  rw [hok]
  have h3 : (toL r).acc.length ≤ 18 := hn
  simp
  omega
where okL {r : R} (h : okB r = true) : (relOf (toL r) = r ∧ (toL r).Ok) ∧ (toL r).acc.length ≤ 150 := SpecTidyRel.okL h
theorem small {r : R} (hok : okB r = true) (hn : r.accept.length ≤ 18) : tidyA r = tidyAcc (toL r) ∧ tidyN r = tidyNext (toL r) ∧ tidyK r = r.tapes ∧ tidyC r = 0 := by
  have hf := few_small hok hn
  have hl : (tidyAcc (toL r)).length ≤ 150 := by
    unfold few at hf
    rw [Bool.and_eq_true] at hf
    exact of_decide_eq_true hf.2
  refine ⟨by unfold tidyA; rw [if_pos hf], by unfold tidyN; rw [if_pos hf], by unfold tidyK; rw [if_pos hf], ?_⟩
  unfold tidyC
  rw [if_pos hok, if_pos hl]
end Go.Proofs.YtcpcbmappcndcaaDoor.ResKit
/- How the arguments of the laws read in memory: relations, lists of numbers.
   Conditions: none. -/
namespace Go.Proofs.YtcpcbmappcndcaaDoor.Readings
set_option linter.unusedVariables false
set_option maxRecDepth 20000
set_option linter.unusedSimpArgs false
open Go.RowKit Mem Rel Go.Joins Go.Deep Go.ChangeShapes Go.WideShapes

theorem Sl_of_addr {w : World} {a : Addr} {n cap : Nat} {f : Nat → Value} (hm : n ≤ maxLen) (h : ∀ i, i < n → w.cell? (a.add i) = some (f i)) : Sl w w.heap.size (.slice (some a) n cap) n f := by
  obtain ⟨b, off, spot⟩ := a
  by_cases h0 : n = 0
  · subst h0
    exact ⟨_, 0, 0, cap, rfl, hm, fun h => absurd h (Nat.lt_irrefl 0), fun i hi => absurd hi (Nat.not_lt_zero i)⟩
  · have hspot : spot = none := by
      have := World.cell?_spot (h 0 (by omega))
      simpa [Addr.add] using this
    subst hspot
    have hp : ∀ i, (⟨b, off, none⟩ : Addr).add i = ⟨b, off + i, none⟩ := by intro i; unfold Addr.add; split <;> simp_all
    refine ⟨_, b, off, cap, rfl, hm, fun _ => ⟨rfl, ?_⟩, fun i hi => ?_⟩
    · have := World.block_lt_of_cell? w _ (h 0 (by omega))
      rwa [hp] at this
    · have := h i hi
      rwa [hp] at this

theorem Sl_nil (w : World) (B : Nat) (a : Option Addr) (cap : Nat) (f : Nat → Value) : Sl w B (.slice a 0 cap) 0 f :=
  ⟨a, 0, 0, cap, rfl, Nat.zero_le _, fun h => absurd h (Nat.lt_irrefl 0), fun i hi => absurd hi (Nat.not_lt_zero i)⟩

section
variable {H : Type} {enc : TypeId × Value → H} {w : World}

theorem read_bools {fuel : Nat} {v : Value} {x : DataW H × List MemPlace} (h : DataW.trod enc Tryd.prog w 0 (fun _ => true) true fuel 22 [v] = some x) : ∃ bs, Bools w w.heap.size v bs := by
  rcases open_bools Tryd.underlying22 Tryd.underlying4 (by kernel_rfl) h with ⟨hcs, _⟩ | ⟨a, len, cap, Z, hcs, _, hl, hm, _, hcell⟩
  · simp at hcs; subst hcs
    exact ⟨[], Sl_nil _ _ _ _ _⟩
  · simp at hcs; subst hcs
    refine ⟨(List.range len).map Z, ?_⟩
    unfold Bools
    simp only [List.length_map, List.length_range]
    refine Sl_of_addr (by omega) fun i hi => ?_
    rw [hcell i (by simpa using (by omega : i < cap))]
    simp [List.getD, hi]

theorem read_rows {fuel : Nat} {v : Value} {x : DataW H × List MemPlace} (h : DataW.trod enc Tryd.prog w 0 (fun _ => true) true fuel 23 [v] = some x) : ∃ xss, IntRows w w.heap.size v xss := by
  rcases open_int_rows Tryd.underlying23 Tryd.underlying45 Tryd.underlying2 (by kernel_rfl) (by kernel_rfl) h with ⟨hcs, _⟩ | ⟨a, len, cap, A, L, C, Z, hcs, _, hl, hm, _, hcell⟩
  · simp at hcs; subst hcs
    exact ⟨[], fun _ => .slice none 0 0, Sl_nil _ _ _ _ _, fun i hi => absurd hi (Nat.not_lt_zero i)⟩
  · simp at hcs; subst hcs
    refine ⟨(List.range len).map fun r => (Z r).take (L r), fun r => .slice (A r) (L r) (C r), ?_, fun i hi => ?_⟩
    · simp only [List.length_map, List.length_range]
      exact Sl_of_addr (by omega) fun i hi => (hcell i (by omega)).1
    · simp only [List.length_map, List.length_range] at hi
      obtain ⟨_, h2, h3, h4, _, h6, h7⟩ := hcell i (by omega)
      have e : ((List.range len).map fun r => (Z r).take (L r)).getD i [] = (Z i).take (L i) := by simp [List.getD, hi]
      rw [e]
      unfold Ints
      have hlen : ((Z i).take (L i)).length = L i := by rw [List.length_take]; omega
      rw [hlen]
      show Sl w w.heap.size (.slice (A i) (L i) (C i)) (L i) _
      cases hA : A i with
      | none =>
        have := h6 hA
        have h0 : L i = 0 := by omega
        rw [h0]
        exact Sl_nil _ _ _ _ _
      | some a' =>
        refine Sl_of_addr (n := L i) (by omega) fun j hj => ?_
        rw [(h7 a' hA).2 j (by omega)]
        simp [List.getD, hj]

theorem read_rel {r : Reach} {b0 : Nat} {v : Value} {d : DataW H} {p : List MemPlace} (hv : Value.okWide Tryd.prog w r b0 25 v) (h : DataW.Trod enc Tryd.prog w 0 (fun _ => true) true 25 v d p) :
    ∃ R, RelAt w w.heap.size v R := by
  obtain ⟨v0, v1, v2, v3, y0, y1, y2, y3, n, rfl, _, _, h0, h1, h2, h3⟩ := open_agg4 Tryd.underlying25 (by kernel_rfl) (by kernel_rfl) hv h
  obtain ⟨t, e0, _, _⟩ := DataW.trod_int Tryd.underlying2 h0
  obtain ⟨s, e1, _, _⟩ := DataW.trod_int Tryd.underlying2 h1
  simp at e0 e1
  subst e0 e1
  obtain ⟨bs, hb⟩ := read_bools h2
  obtain ⟨xss, hx⟩ := read_rows h3
  exact ⟨⟨t, s, bs, xss⟩, v2, v3, rfl, hb, hx⟩
end
end Go.Proofs.YtcpcbmappcndcaaDoor.Readings
