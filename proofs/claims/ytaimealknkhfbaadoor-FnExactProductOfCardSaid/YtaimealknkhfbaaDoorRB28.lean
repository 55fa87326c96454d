
/- What the model tells of a tidy relation: the relation, or nothing and the code of a limit.
   Conditions: stated at each theorem. -/
import Derived.Test.YtaimealknkhfbaaDoorRB27
import Derived.Test.YtaimealknkhfbaaDoorRB25
import Derived.Test.YtaimealknkhfbaaDoorRB9
import Derived.Test.YtaimealknkhfbaaDoorRB2
import Derived.Test.YtaimealknkhfbaaDoorRB8
namespace Go.Proofs.YtaimealknkhfbaaDoor.ToldI
set_option linter.unusedVariables false
set_option linter.unusedSimpArgs false
set_option maxRecDepth 100000
open Go.RowKit Mem Copy Rel Valid Heap Bld TidyMath TidyAuto TidyRight ToL SpecRight SpecTidied SpecTold SpecTidyRel ImplTidied

theorem tidy_most {l : L} (hl : l.Ok) (hn : l.acc.length ≤ 5000) : (tidyAcc l).length ≤ 1000000 := by
  have h1 : (tidyAcc l).length = (tid (auM l) 0).length := by unfold tidyAcc TidyAuto.tidAcc; rw [List.length_map]
  have h2 : (tid (auM l) 0).length ≤ TidyAuto.most (auM l) := TidyAuto.met_few (fits hl) _
  have h3 := TidyAuto.cn_le (auM l) (TidyAuto.stop (auM l) + 1)
  have h4 : (auM l).n = (F l).length + 1 := rfl
  have h5 := F_few hl
  unfold TidyAuto.most at h2
  omega
theorem toldI (l : L) (hm : (tidyAcc l).length ≤ 1000000) (a4 b4 : Option Addr) (n4 c4 m4 d4 : Nat) (w : World) (B : Nat) (hbu : Built w B (.slice a4 n4 c4) (.slice b4 m4 d4) (tidyAcc l) (tidyNext l)) :
    Calls Tryd.prog 35 #[.agg #[.int .i64 (l.k : Nat), .int .i64 0, .slice a4 n4 c4, .slice b4 m4 d4]] w fun e w' => ∃ va vn, e = .returned (.tuple #[.agg #[.int .i64 (fewK l 150), .int .i64 0, va, vn], .int .i64 (if fewB l 150 = true then 0 else 3)]) ∧ Built w' B va vn (fewA l 150) (fewN l 150) ∧ Below w.heap.size w w' := by
  obtain ⟨a5, n5, c5, e5, hn5⟩ := hbu.acc.shape'
  injection e5 with _ e5 _
  have hn4 : n4 = (tidyAcc l).length := by rw [e5, hn5.out, List.length_map]
  by_cases hf : (tidyAcc l).length ≤ 150
  · have hb : fewB l 150 = true := decide_eq_true hf
    unfold fewK fewA fewN
    rw [if_pos hb, if_pos hb, if_pos hb, if_pos hb]
    exact (told_few _ _ _ _ _ _ _ w (by omega)).mono fun e w' ⟨he, hb⟩ => ⟨_, _, he, hbu.below hb, hb⟩
  · have hb : fewB l 150 = false := decide_eq_false hf
    unfold fewK fewA fewN
    rw [hb]
    exact (told_many _ _ _ _ _ _ _ w (by omega) (by omega)).mono fun e w' ⟨he, hb⟩ => ⟨_, _, he, ImplTidied.built_none _ _, hb⟩
theorem box_ptr {w W : World} {B b : Nat} {va vn : Value} {r : R} (h : RelAt w B (.agg #[.int .i64 r.tapes, .int .i64 r.start, va, vn]) r) (hB : B ≤ w.heap.size) (hb : Below w.heap.size w W) (hx : W.heap[b]? = some (.cells #[.int .i64 r.tapes, .int .i64 r.start, va, vn] 27 (0, 0))) : RelPtr W W.heap.size b r := by
  obtain ⟨va', vn', e, ha, hn⟩ := h
  simp at e
  obtain ⟨rfl, rfl⟩ := e
  have y0 := cells_get hx 0
  have y1 := cells_get hx 1
  have y2 := cells_get hx 2
  have y3 := cells_get hx 3
  simp at y0 y1 y2 y3
  exact ⟨_, _, y0, y1, y2, y3, (ha.below hb hB).mono (Nat.le_trans hB hb.size), (hn.below hb hB).mono (Nat.le_trans hB hb.size)⟩
end Go.Proofs.YtaimealknkhfbaaDoor.ToldI
/- What the model's AddTape answers: a relation in memory of its own, and a code.
   Conditions: the relation is read as XRel's text says. -/
namespace Go.Proofs.YtaimealknkhfbaaDoor.AddFnS
set_option linter.unusedVariables false
set_option linter.unusedSimpArgs false
set_option linter.ambiguousOpen false
set_option maxRecDepth 100000
open Go.RowKit Go.Maps Mem Copy Rel Valid Heap Bld Columns ColMath SpecFiner Numbers TidyMath TidyAuto TidyRight SpecRight ToL SpecTidyRel ImplRight ImplTidied ErrCode OppImpl Automaton TapeMath TapeI AddI StepI TapeFn ToldI MovedS AddedS AddFn

end Go.Proofs.YtaimealknkhfbaaDoor.AddFnS
/- The state of a law's walk over a relation that is answered, beside what the law's arguments are: what is kept when a part of it is marked.
   Conditions: stated at each theorem. -/
namespace Go.Proofs.YtaimealknkhfbaaDoor.ResKit
set_option linter.unusedVariables false
set_option linter.unusedSimpArgs false
open Go.RowKit Mem Copy Rel Valid Heap Bld MarkRow MarkBool MarkRows MarkRel MarkOf ToL TidyAuto TidyRight SpecRight SpecTidyRel LawKit

/-- What is kept by all that is laid behind block Lo. -/
def Keeps (Lo : Nat) (E : World → Prop) : Prop := ∀ W W', E W → Below Lo W W' → E W'

/-- The law's state: what its arguments are (E), the model's answer, the program's answer. -/
structure St (w : World) (Lo : Nat) (E : World → Prop) (P : Nat) (K : Int) (wa wn : Value) (A : List Bool) (N : List (List Int)) (L : Nat) (ga gn : Value) (V : Nat → Value) (Q : Nat) (fb : Nat → Value) (f : Nat → Nat → Value) (W : World) : Prop where
  base : Below w.heap.size w W
  ext : E W
  wk : WK P K wa wn A N W
  relf : RelF W L ga gn A.length fb N.length V (lenF N) f
  gb : Kept W Q (.int .i64 K) (.int .i64 0) ga gn
  out : ¬ InRel ga A.length N.length V (lenF N) Q
  hPL : P < L
  hLo : Lo ≤ P
  hwL : w.heap.size ≤ Lo
  hLQ : L ≤ Q

section
variable {w : World} {Lo : Nat} {E : World → Prop} {P : Nat} {K : Int} {wa wn : Value} {A : List Bool} {N : List (List Int)} {L : Nat} {ga gn : Value} {V : Nat → Value} {Q : Nat} {fb : Nat → Value} {f : Nat → Nat → Value} {W W' : World}
theorem St.lL (h : St w Lo E P K wa wn A N L ga gn V Q fb f W) : L ≤ W.heap.size := Nat.le_of_lt (Nat.lt_of_le_of_lt h.hLQ h.gb.lt)
theorem St.step (hE : Keeps Lo E) (h : St w Lo E P K wa wn A N L ga gn V Q fb f W) (hb : Below W.heap.size W W') : St w Lo E P K wa wn A N L ga gn V Q fb f W' :=
  ⟨base_step h.base hb, hE _ _ h.ext (hb.mono (by have := h.lL; have := h.hPL; have := h.hLo; omega)), h.wk.step hb, h.relf.below hb, h.gb.step hb, h.out, h.hPL, h.hLo, h.hwL, h.hLQ⟩
theorem St.drew (hE : Keeps Lo E) (h : St w Lo E P K wa wn A N L ga gn V Q fb f W) : St w Lo E P K wa wn A N L ga gn V Q fb f W.drew := h.step hE ((Below.refl _ _).drew)
/-- What lies between the two answers is marked. -/
theorem St.markX (hE : Keeps Lo E) {S : Nat → Prop} (h : St w Lo E P K wa wn A N L ga gn V Q fb f W) (ho : Only S W W') (hS : ∀ b, S b → P < b ∧ b < L) : St w Lo E P K wa wn A N L ga gn V Q fb f W' :=
  have hbP : Below (P + 1) W W' := ho.below (fun b hb => by have := hS b hb; omega) (by have := h.lL; have := h.hPL; omega)
  ⟨h.base.trans (ho.below (fun b hb => by have := hS b hb; have := h.hLo; have := h.hwL; omega) h.base.size), hE _ _ h.ext (hbP.mono (by have := h.hLo; omega)),
   h.wk.low hbP, relF_only h.relf ho (fun b hb => by have := hS b hb; omega), Kept.only h.gb ho (fun e => by have := hS _ e; have := h.hLQ; omega), h.out, h.hPL, h.hLo, h.hwL, h.hLQ⟩
/-- The program's answer is marked. -/
theorem St.markG (hE : Keeps Lo E) {fb' : Nat → Value} {f' : Nat → Nat → Value} (h : St w Lo E P K wa wn A N L ga gn V Q fb f W) (ho : Only (InRel ga A.length N.length V (lenF N)) W W') (hr : RelF W' L ga gn A.length fb' N.length V (lenF N) f') : St w Lo E P K wa wn A N L ga gn V Q fb' f' W' :=
  have hbP : Below (P + 1) W W' := ho.below (fun b hb => by have := inRel_ge h.relf hb; have := h.hPL; omega) (by have := h.lL; have := h.hPL; omega)
  ⟨h.base.trans (ho.below (fun b hb => by have := inRel_ge h.relf hb; have := h.hPL; have := h.hLo; have := h.hwL; omega) h.base.size), hE _ _ h.ext (hbP.mono (by have := h.hLo; omega)),
   h.wk.low hbP, hr, Kept.only h.gb ho h.out, h.out, h.hPL, h.hLo, h.hwL, h.hLQ⟩
end

/-! What is tidied of a small automaton. -/
theorem tidyAcc_len {l : L} (hl : l.Ok) : (tidyAcc l).length ≤ l.acc.length * 8 + 1 := by
  unfold tidyAcc tidAcc
  rw [List.length_map]
  have h1 := met_few (fits hl) (most (auM l))
  have h2 : most (auM l) ≤ (auM l).n := cn_le _ _
  have h3 : (auM l).n = (F l).length + 1 := rfl
  have h4 := places_len hl (l.acc.length * 8)
  have h5 : (F l).length = (places l (l.acc.length * 8)).length := rfl
  unfold tid
  omega
theorem tidyNext_len (l : L) : (tidyNext l).length = (tidyAcc l).length := by
  unfold tidyNext tidyAcc tidNext tidAcc
  rw [List.length_map, List.length_map]
theorem tidyNext_row {l : L} (hl : l.Ok) (i : Nat) : lenF (tidyNext l) i ≤ 26 := by
  unfold lenF
  have hk : wide l.k ≤ 26 := by have := wide_cases hl.k0 hl.k3; omega
  by_cases hi : i < (tidyNext l).length
  · rw [List.getD, List.getElem?_eq_getElem hi, Option.getD_some]
    have hm := List.getElem_mem hi
    obtain ⟨s, -, hs⟩ := List.mem_map.1 (show _ ∈ (tid (auM l) 0).map (tidRow (auM l) 0) from hm)
    rw [← hs]
    unfold tidRow
    rw [List.length_map]
    exact Nat.le_trans (nxM_len _ s) hk
  · rw [List.getD, List.getElem?_eq_none (by omega)]; exact Nat.zero_le _
theorem tidyL_sum {l : L} (hl : l.Ok) (h : (tidyAcc l).length ≤ 150) : 1 + (tidyAcc l).length + sumTo (lenF (tidyNext l)) (tidyNext l).length ≤ 5000 := by
  have h1 := sumTo_le (lenF (tidyNext l)) 26 (tidyNext l).length (tidyNext_row hl)
  have h2 := tidyNext_len l
  omega
theorem few_small {r : R} (hok : okB r = true) (hn : r.accept.length ≤ 18) : few r = true := by
  have h1 := okL hok
  have h2 := tidyAcc_len h1.1.2
  unfold few
  rw [hok]
  have h3 : (toL r).acc.length ≤ 18 := hn
  simp
  omega
where okL {r : R} (h : okB r = true) : (relOf (toL r) = r ∧ (toL r).Ok) ∧ (toL r).acc.length ≤ 150 := SpecTidyRel.okL h
theorem small {r : R} (hok : okB r = true) (hn : r.accept.length ≤ 18) : tidyA r = tidyAcc (toL r) ∧ tidyN r = tidyNext (toL r) ∧ tidyK r = r.tapes ∧ tidyC r = 0 := by
  have hf := few_small hok hn
  have hl : (tidyAcc (toL r)).length ≤ 150 := by
    unfold few at hf
    rw [Bool.and_eq_true] at hf
    exact of_decide_eq_true hf.2
  refine ⟨by unfold tidyA; rw [if_pos hf], by unfold tidyN; rw [if_pos hf], by unfold tidyK; rw [if_pos hf], ?_⟩
  unfold tidyC
  rw [if_pos hok, if_pos hl]
end Go.Proofs.YtaimealknkhfbaaDoor.ResKit
/- Plain facts: the tidy automaton is an automaton again; the automaton of pairs of states of two automata.
   Conditions: stated at each theorem. -/
namespace Go.Proofs.YtaimealknkhfbaaDoor.PairMath
set_option linter.unusedVariables false
set_option linter.unusedSimpArgs false
open TidyMath TidyClass TidyAuto TidyRight SpecFiner SpecRight

/-- The tidy automaton. -/
def tidL (l : L) : L := ⟨l.k, 0, tidyAcc l, (tid (auM l) 0).map fun s => ((auM l).nx s).map fun t => idx (cls (auM l) (stop (auM l) + 1)) (tid (auM l) 0) t⟩
theorem tidL_rel (l : L) : relOf (tidL l) = ⟨l.k, 0, tidyAcc l, tidyNext l⟩ := by
  unfold relOf tidL tidyNext tidNext tidRow
  simp only [List.map_map]
  congr 1
  refine List.map_congr_left fun s _ => ?_
  show ofN (List.map _ _) = List.map _ _
  unfold ofN
  rw [List.map_map]
  rfl
theorem tidyAcc_pos (l : L) : 0 < (tidyAcc l).length := by
  unfold tidyAcc tidAcc
  rw [List.length_map]
  exact bfs_pos _ _ _ _
theorem auM_row {l : L} (h : l.Ok) {s : Nat} (hs : s < (auM l).n) : ((auM l).nx s).length = wide l.k := by
  have hs' : s < (F l).length + 1 := hs
  by_cases e : s < (F l).length
  · rw [auM_nx e]
    unfold rowM
    rw [List.length_map, succR_length]
  · obtain rfl : s = (F l).length := by omega
    rw [auM_dead, List.length_replicate]
theorem tidL_ok {l : L} (h : l.Ok) : (tidL l).Ok := by
  have hF := fits h
  have hlen : (tidL l).acc.length = (tid (auM l) 0).length := by unfold tidL tidyAcc tidAcc; rw [List.length_map]
  have hrow : ∀ s (hs : s < (tid (auM l) 0).length), (tidL l).nx.getD s [] = ((auM l).nx (tid (auM l) 0)[s]).map fun t => idx (cls (auM l) (stop (auM l) + 1)) (tid (auM l) 0) t := by
    intro s hs
    unfold tidL
    simp [List.getD, hs]
  have hin : ∀ s (hs : s < (tid (auM l) 0).length), (tid (auM l) 0)[s] < (auM l).n := fun s hs => met_lt hF _ _ (List.getElem_mem hs)
  refine ⟨h.k0, h.k3, tidyAcc_pos l, ?_, fun s hs => ?_, fun s hs c hc => ?_⟩
  · rw [hlen]; unfold tidL; rw [List.length_map]
  · rw [hlen] at hs
    rw [hrow s hs, List.length_map, auM_row h (hin s hs)]
    rfl
  · rw [hlen] at hs ⊢
    rw [hrow s hs]
    have hr := auM_row h (hin s hs)
    have hc' : c < ((auM l).nx (tid (auM l) 0)[s]).length := by rw [hr]; exact hc
    have e : (((auM l).nx (tid (auM l) 0)[s]).map fun t => idx (cls (auM l) (stop (auM l) + 1)) (tid (auM l) 0) t).getD c 0 = idx (cls (auM l) (stop (auM l) + 1)) (tid (auM l) 0) (((auM l).nx (tid (auM l) 0)[s])[c]) := by
      simp [List.getD, hc']
    rw [e]
    have hB := met_few hF
    have hjb := end_before _ _ _ hB (i := s) hs
    have hget : (bfs (cls (auM l) (stop (auM l) + 1)) (sucs (auM l)) 0 s)[s] = (tid (auM l) 0)[s] := (prefix_get (end_prefix _ _ _ hB _) hjb).symm
    refine bfs_found (cls (auM l) (stop (auM l) + 1)) (sucs (auM l)) 0 (i := most (auM l)) (j := s) (Nat.lt_of_lt_of_le hs (hB _)) hjb _ ?_
    rw [hget]
    exact List.mem_map_of_mem (List.getElem_mem hc')

/-- The automaton of pairs. -/
def pairL (t : Bool → Bool → Bool) (l m : L) : L :=
  ⟨l.k, l.start * m.acc.length + m.start,
   (List.range (l.acc.length * m.acc.length)).map fun x => t (l.acc.getD (x / m.acc.length) false) (m.acc.getD (x % m.acc.length) false),
   (List.range (l.acc.length * m.acc.length)).map fun x => (List.range (wide l.k)).map fun c => (l.nx.getD (x / m.acc.length) []).getD c 0 * m.acc.length + (m.nx.getD (x % m.acc.length) []).getD c 0⟩
theorem pair_lt {a b n m : Nat} (ha : a < n) (hb : b < m) : a * m + b < n * m := by
  have h1 : a * m + b < (a + 1) * m := by rw [Nat.add_mul]; omega
  exact Nat.lt_of_lt_of_le h1 (Nat.mul_le_mul_right m ha)
theorem pairL_len (t : Bool → Bool → Bool) (l m : L) : (pairL t l m).acc.length = l.acc.length * m.acc.length := by simp [pairL]
theorem pairL_ok (t : Bool → Bool → Bool) {l m : L} (hl : l.Ok) (hm : m.Ok) (hk : l.k = m.k) : (pairL t l m).Ok := by
  have hpos : 0 < m.acc.length := Nat.lt_of_le_of_lt (Nat.zero_le _) hm.st
  refine ⟨hl.k0, hl.k3, ?_, ?_, fun x hx => ?_, fun x hx c hc => ?_⟩
  · rw [pairL_len]; exact pair_lt hl.st hm.st
  · rw [pairL_len]; simp [pairL]
  · rw [pairL_len] at hx
    simp [pairL, List.getD, hx]
  · rw [pairL_len] at hx ⊢
    have hc' : c < wide l.k := hc
    have e : ((pairL t l m).nx.getD x []).getD c 0 = (l.nx.getD (x / m.acc.length) []).getD c 0 * m.acc.length + (m.nx.getD (x % m.acc.length) []).getD c 0 := by
      simp [pairL, List.getD, hx, hc']
    rw [e]
    exact pair_lt (hl.lt _ (Nat.div_lt_of_lt_mul (by rw [Nat.mul_comm]; exact hx)) c hc') (hm.lt _ (Nat.mod_lt _ hpos) c (by rw [← hk]; exact hc'))
theorem pair_div {p q n : Nat} (hq : q < n) : (p * n + q) / n = p := by
  rw [Nat.mul_comm, Nat.mul_add_div (by omega), Nat.div_eq_of_lt hq, Nat.add_zero]
theorem pair_mod {p q n : Nat} (hq : q < n) : (p * n + q) % n = q := by
  rw [Nat.mul_comm, Nat.mul_add_mod, Nat.mod_eq_of_lt hq]
/-- A row of the automaton of pairs. -/
def rowPQ (l m : L) (p q : Nat) : List Int := (List.range (wide l.k)).map fun c => (((l.nx.getD p []).getD c 0 * m.acc.length + (m.nx.getD q []).getD c 0 : Nat) : Int)
theorem rel_next_len (t : Bool → Bool → Bool) (l m : L) : (relOf (pairL t l m)).next.length = l.acc.length * m.acc.length := by simp [pairL, relOf]
theorem acc_next (t : Bool → Bool → Bool) (l m : L) {p q : Nat} (hp : p < l.acc.length) (hq : q < m.acc.length) :
    (pairL t l m).acc.take (p * m.acc.length + q + 1) = (pairL t l m).acc.take (p * m.acc.length + q) ++ [t (l.acc.getD p false) (m.acc.getD q false)] := by
  have hx := pair_lt hp hq
  rw [List.take_succ_eq_append_getElem (by rw [pairL_len]; exact hx)]
  congr 2
  simp only [pairL, List.getElem_map, List.getElem_range]
  rw [pair_div hq, pair_mod hq]
theorem next_next (t : Bool → Bool → Bool) (l m : L) {p q : Nat} (hp : p < l.acc.length) (hq : q < m.acc.length) :
    (relOf (pairL t l m)).next.take (p * m.acc.length + q + 1) = (relOf (pairL t l m)).next.take (p * m.acc.length + q) ++ [rowPQ l m p q] := by
  have hx := pair_lt hp hq
  rw [List.take_succ_eq_append_getElem (by rw [rel_next_len]; exact hx)]
  congr 2
  simp only [relOf, pairL, List.getElem_map, List.getElem_range]
  rw [pair_div hq, pair_mod hq]
  unfold ofN rowPQ
  rw [List.map_map]
  rfl
theorem mul_le_pair {a b n m : Nat} (ha : a < n) (hb : b < m) (h : n * m ≤ 1000) : a * m ≤ 1000 ∧ a * m + b ≤ 1000 := by
  have := pair_lt ha hb
  omega
theorem sides {n m : Nat} (hn : 0 < n) (hm : 0 < m) (h : n * m ≤ 1000) : n ≤ 1000 ∧ m ≤ 1000 :=
  ⟨Nat.le_trans (Nat.le_mul_of_pos_right n hm) h, Nat.le_trans (Nat.le_mul_of_pos_left m hn) h⟩
end Go.Proofs.YtaimealknkhfbaaDoor.PairMath
