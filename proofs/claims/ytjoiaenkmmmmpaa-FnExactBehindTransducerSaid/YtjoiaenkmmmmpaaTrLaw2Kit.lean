
/- The state of a law's walk over two transducers and a transducer that is answered.
   Conditions: stated at each theorem. -/
import Derived.Test.YtjoiaenkmmmmpaaTrLawKit
import Derived.Test.YtjoiaenkmmmmpaaTurnImpl
import Derived.Deep.RegionWith
import Derived.Deep.RegionHeld3
import Derived.Deep.DrawnRows
namespace Go.Proofs.Ytjoiaenkmmmmpaa.TrLaw2Kit
set_option linter.unusedVariables false
set_option linter.unusedSimpArgs false
open Go.RowKit Mem Copy Rel Heap MarkRow MarkBool MarkRows Edg EdgCopy EdgEq TrHeap TrMark TurnImpl
open TrLawKit hiding St St.step St.drew St.markX St.markG St.lL

theorem szEsTo_low (es : List E) : ∀ left : Int, 0 ≤ left → szEsTo left es ≤ left := by
  induction es with
  | nil => intro l h; exact Int.le_refl _
  | cons e r ih =>
    intro l h
    unfold szEsTo
    by_cases h1 : szE l e < 0
    · rw [if_pos h1]; omega
    · rw [if_neg h1]
      have := ih (szE l e) (by omega)
      have := (szE_le (left := l) (e := e) (by omega)).1
      omega
theorem szTr_sum {left : Int} {t : T} (h0 : 0 ≤ left) (h : 0 ≤ szTr left t) : szTr left t + (t.accept.length : Int) + (t.edges.length : Int) ≤ left := by
  unfold szTr at h ⊢
  by_cases h1 : left < (t.accept.length : Int)
  · rw [if_pos h1] at h; omega
  · rw [if_neg h1] at h ⊢
    unfold szEs at h ⊢
    by_cases h2 : left - t.accept.length < (t.edges.length : Int)
    · rw [if_pos h2] at h; omega
    · rw [if_neg h2] at h ⊢
      have := szEsTo_low t.edges (left - t.accept.length - t.edges.length) (by omega)
      omega
theorem not_size {w : World} {lo : Nat} {va vn : Value} {nb ne : Nat} {fb fe : Nat → Value} (h : TrF w lo va vn nb fb ne fe) : ¬ InTr va nb vn ne w.heap.size := fun hb => Nat.lt_irrefl _ (inTr_lt h hb)

/-- The arguments' boxes. -/
structure Ar (w : World) (r s : T) (va vn ua un : Value) (W : World) : Prop where
  a : Kept3 W w.heap.size (.int .i64 r.start) va vn
  b : Kept3 W (w.heap.size + 1) (.int .i64 s.start) ua un
theorem kept_low {B : Nat} {W W' : World} {b : Nat} {x0 x1 x2 : Value} (h : Kept3 W b x0 x1 x2) (hb : Below B W W') (hB : b < B) : Kept3 W' b x0 x1 x2 := h.low hb hB (Nat.lt_of_lt_of_le h.lt hb.size)
theorem ar_keeps (w : World) (r s : T) (va vn ua un : Value) (W W' : World) (h : Ar w r s va vn ua un W) (hb : Below (w.heap.size + 2) W W') : Ar w r s va vn ua un W' :=
  ⟨kept_low h.a hb (by omega), kept_low h.b hb (by omega)⟩

/-- A copy of an argument, and the box in which it lies. -/
structure Cp (r : T) (M X : Nat) (W : World) : Prop where
  own : OwnT W M r
  xb : Kept3 W X (.int .i64 r.start) (.slice (some ⟨M, 0, none⟩) r.accept.length r.accept.length) (.slice (some ⟨M + 1, 0, none⟩) r.edges.length r.edges.length)
  hX : M + 2 ≤ X
theorem Cp.step {r : T} {M X : Nat} {W W' : World} (h : Cp r M X W) (hb : Below W.heap.size W W') : Cp r M X W' := ⟨h.own.step hb, h.xb.step hb, h.hX⟩
theorem Cp.new {r : T} {M : Nat} {W : World} (h : OwnT W M r) (t : TypeId) : Cp r M W.heap.size (W.alloc (.cells #[.int .i64 r.start, .slice (some ⟨M, 0, none⟩) r.accept.length r.accept.length, .slice (some ⟨M + 1, 0, none⟩) r.edges.length r.edges.length] t)) :=
  ⟨h.box _, Kept3.new _ _ _ _ _, h.top⟩
/-- The model's answer in its box, wherever the box was made. -/
structure Ma (w : World) (r s : T) (va vn ua un : Value) (P U : Nat) (K : Int) (wa wn : Value) (A : List Bool) (N : List E) (W : World) : Prop where
  base : Below w.heap.size w W
  ar : Ar w r s va vn ua un W
  rel : TrAt W U (.agg #[.int .i64 K, wa, wn]) ⟨K, A, N⟩
  box : Kept3 W P (.int .i64 K) wa wn
  hP : w.heap.size + 2 ≤ P
  hPU : P < U
  hU : U ≤ W.heap.size
theorem kept_of {W : World} {P : Nat} {x0 x1 x2 : Value} {t : TypeId} (h : W.heap[P]? = some (.cells #[x0, x1, x2] t (0, 0))) : Kept3 W P x0 x1 x2 :=
  ⟨(cell_of_block h 0).1, (cell_of_block h 1).1, (cell_of_block h 2).1, lt_of_block h⟩
theorem ma_late {w : World} {r s : T} {va vn ua un : Value} {K : Int} {wa wn : Value} {A : List Bool} {N : List E} {B : Nat} {W : World} (hb : Below w.heap.size w W) (ha : Ar w r s va vn ua un W) (hbu : BuiltT W B wa wn A N) (t : TypeId) :
    Ma w r s va vn ua un W.heap.size (W.heap.size + 1) K wa wn A N (W.alloc (.cells #[.int .i64 K, wa, wn] t)) :=
  ⟨base_box hb _, ⟨ha.a.box _, ha.b.box _⟩, ((hbu.reads W.heap.size (Nat.le_refl _) K).below ((Below.refl _ _).alloc (Nat.le_refl _) _) (Nat.le_refl _)).mono (Nat.le_succ _), Kept3.new _ _ _ _ _, ha.b.lt, Nat.lt_succ_self _, by rw [size_alloc']; exact Nat.le_refl _⟩
theorem ma_early {w : World} {r s : T} {va vn ua un : Value} {K : Int} {wa wn : Value} {A : List Bool} {N : List E} {B P : Nat} {W : World} {t : TypeId} (hb : Below w.heap.size w W) (ha : Ar w r s va vn ua un W) (hbu : BuiltT W B wa wn A N) (hP : w.heap.size + 2 ≤ P) (hPB : P < B) (hbx : W.heap[P]? = some (.cells #[Value.int .i64 0, .slice none 0 0, .slice none 0 0] t (0, 0))) :
    Ma w r s va vn ua un P W.heap.size K wa wn A N (((W.setCell ⟨P, 0, none⟩ (.int .i64 K)).setCell ⟨P, 1, none⟩ wa).setCell ⟨P, 2, none⟩ wn) := by
  have hlow : Below (w.heap.size + 2) W (((W.setCell ⟨P, 0, none⟩ (.int .i64 K)).setCell ⟨P, 1, none⟩ wa).setCell ⟨P, 2, none⟩ wn) :=
    (((Below.refl _ W).setCell (p := ⟨P, 0, none⟩) hP _).setCell (p := ⟨P, 1, none⟩) hP _).setCell (p := ⟨P, 2, none⟩) hP _
  have hbu4 := BuiltT.setLow (BuiltT.setLow (BuiltT.setLow hbu (a := ⟨P, 0, none⟩) hPB (.int .i64 K)) (a := ⟨P, 1, none⟩) hPB wa) (a := ⟨P, 2, none⟩) hPB wn
  have hsz : (((W.setCell ⟨P, 0, none⟩ (.int .i64 K)).setCell ⟨P, 1, none⟩ wa).setCell ⟨P, 2, none⟩ wn).heap.size = W.heap.size := by simp [World.setCell]
  have hr := BuiltT.reads hbu4 W.heap.size (by rw [hsz]; exact Nat.le_refl _) K
  exact ⟨hb.trans (hlow.mono (by omega)), ⟨kept_low ha.a hlow (by omega), kept_low ha.b hlow (by omega)⟩, hr, kept_of (put3_block hbx), hP, lt_of_block hbx, by rw [hsz]; exact Nat.le_refl _⟩

/-- The program's second answer in its box. -/
structure Hb (w : World) (P : Nat) (K : Int) (wa wn : Value) (A : List Bool) (N : List E) (W : World) : Prop where
  base : Below w.heap.size w W
  rel : TrAt W W.heap.size (.agg #[.int .i64 K, wa, wn]) ⟨K, A, N⟩
  box : Kept3 W P (.int .i64 K) wa wn
theorem hb_late {w : World} {K : Int} {wa wn : Value} {A : List Bool} {N : List E} {B : Nat} {W : World} (hb : Below w.heap.size w W) (hbu : BuiltT W B wa wn A N) (t : TypeId) : Hb w W.heap.size K wa wn A N (W.alloc (.cells #[.int .i64 K, wa, wn] t)) :=
  ⟨base_box hb _, BuiltT.reads (hbu.below ((Below.refl _ _).alloc (Nat.le_refl _) _)) _ (Nat.le_refl _) K, Kept3.new _ _ _ _ _⟩
theorem hb_early {w : World} {K : Int} {wa wn : Value} {A : List Bool} {N : List E} {B P : Nat} {W : World} {t : TypeId} (hb : Below w.heap.size w W) (hbu : BuiltT W B wa wn A N) (hP : w.heap.size ≤ P) (hPB : P < B) (hbx : W.heap[P]? = some (.cells #[Value.int .i64 0, .slice none 0 0, .slice none 0 0] t (0, 0))) :
    Hb w P K wa wn A N (((W.setCell ⟨P, 0, none⟩ (.int .i64 K)).setCell ⟨P, 1, none⟩ wa).setCell ⟨P, 2, none⟩ wn) := by
  have hbu4 := BuiltT.setLow (BuiltT.setLow (BuiltT.setLow hbu (a := ⟨P, 0, none⟩) hPB (.int .i64 K)) (a := ⟨P, 1, none⟩) hPB wa) (a := ⟨P, 2, none⟩) hPB wn
  exact ⟨((hb.setCell (p := ⟨P, 0, none⟩) hP _).setCell (p := ⟨P, 1, none⟩) hP _).setCell (p := ⟨P, 2, none⟩) hP _, BuiltT.reads hbu4 _ (Nat.le_refl _) K, kept_of (put3_block hbx)⟩
theorem Ma.step {w : World} {r s : T} {va vn ua un : Value} {P U : Nat} {K : Int} {wa wn : Value} {A : List Bool} {N : List E} {W W' : World} (h : Ma w r s va vn ua un P U K wa wn A N W) (hb : Below W.heap.size W W') : Ma w r s va vn ua un P U K wa wn A N W' :=
  ⟨base_step h.base hb, ⟨h.ar.a.step hb, h.ar.b.step hb⟩, h.rel.below hb h.hU, h.box.step hb, h.hP, h.hPU, Nat.le_trans h.hU hb.size⟩
theorem Ma.low {w : World} {r s : T} {va vn ua un : Value} {P U : Nat} {K : Int} {wa wn : Value} {A : List Bool} {N : List E} {W W' : World} (h : Ma w r s va vn ua un P U K wa wn A N W) (hb : Below U W W') : Ma w r s va vn ua un P U K wa wn A N W' :=
  ⟨h.base.trans (hb.mono (by have := h.hP; have := h.hPU; omega)), ar_keeps _ _ _ _ _ _ _ _ _ h.ar (hb.mono (by have := h.hP; have := h.hPU; omega)), h.rel.below hb (Nat.le_refl _), kept_low h.box hb h.hPU, h.hP, h.hPU, Nat.le_trans h.hU hb.size⟩
theorem Ma.read {w : World} {r s : T} {va vn ua un : Value} {P U : Nat} {K : Int} {wa wn : Value} {A : List Bool} {N : List E} {W : World} (h : Ma w r s va vn ua un P U K wa wn A N W) : TrAt W W.heap.size (.agg #[.int .i64 K, wa, wn]) ⟨K, A, N⟩ := h.rel.mono h.hU

/-- The law's state: the arguments' boxes and the model's answer, the program's answer. -/
structure St (w : World) (r s : T) (va vn ua un : Value) (P U : Nat) (K : Int) (wa wn : Value) (A : List Bool) (N : List E) (L : Nat) (ga gn : Value) (Q : Nat) (fb fe : Nat → Value) (W : World) : Prop where
  ma : Ma w r s va vn ua un P U K wa wn A N W
  relf : TrF W L ga gn A.length fb N.length fe
  gb : Kept3 W Q (.int .i64 K) ga gn
  out : ¬ InTr ga A.length gn N.length Q
  hUL : U ≤ L
  hLQ : L ≤ Q
section
variable {w : World} {r s : T} {va vn ua un : Value} {P U : Nat} {K : Int} {wa wn : Value} {A : List Bool} {N : List E} {L : Nat} {ga gn : Value} {Q : Nat} {fb fe : Nat → Value} {W W' : World}
theorem St.step (h : St w r s va vn ua un P U K wa wn A N L ga gn Q fb fe W) (hb : Below W.heap.size W W') : St w r s va vn ua un P U K wa wn A N L ga gn Q fb fe W' :=
  ⟨h.ma.step hb, h.relf.below hb, h.gb.step hb, h.out, h.hUL, h.hLQ⟩
theorem St.lL (h : St w r s va vn ua un P U K wa wn A N L ga gn Q fb fe W) : L ≤ W.heap.size := Nat.le_of_lt (Nat.lt_of_le_of_lt h.hLQ h.gb.lt)
/-- What lies between the two answers is marked. -/
theorem St.markX {S : Nat → Prop} (h : St w r s va vn ua un P U K wa wn A N L ga gn Q fb fe W) (ho : Only S W W') (hS : ∀ b, S b → U ≤ b ∧ b < L) : St w r s va vn ua un P U K wa wn A N L ga gn Q fb fe W' :=
  ⟨h.ma.low (ho.below (fun b hb => (hS b hb).1) h.ma.hU), trF_only h.relf ho (fun b hb e => by have := hS b e; have := inTr_ge h.relf hb; omega), Kept3.only h.gb ho (fun e => by have := hS _ e; have := h.hLQ; omega), h.out, h.hUL, h.hLQ⟩
/-- The program's answer is marked. -/
theorem St.markG {fb' fe' : Nat → Value} (h : St w r s va vn ua un P U K wa wn A N L ga gn Q fb fe W) (ho : Only (InTr ga A.length gn N.length) W W') (hr : TrF W' L ga gn A.length fb' N.length fe') : St w r s va vn ua un P U K wa wn A N L ga gn Q fb' fe' W' :=
  ⟨h.ma.low (ho.below (fun b hb => by have := inTr_ge h.relf hb; have := h.hUL; omega) h.ma.hU), hr, Kept3.only h.gb ho h.out, h.out, h.hUL, h.hLQ⟩
/-- The same before anything is marked, with the program's arguments. -/
structure Ck (w : World) (r s : T) (va vn ua un : Value) (P U : Nat) (K : Int) (wa wn : Value) (A : List Bool) (N : List E) (L : Nat) (ga gn : Value) (Q : Nat) (M X M' X' : Nat) (W : World) : Prop where
  st : St w r s va vn ua un P U K wa wn A N L ga gn Q (boolF A) (edgeF N) W
  built : BuiltT W L ga gn A N
  c1 : Cp r M X W
  c2 : Cp s M' X' W
theorem Ck.step {M X M' X' : Nat} (h : Ck w r s va vn ua un P U K wa wn A N L ga gn Q M X M' X' W) (hb : Below W.heap.size W W') : Ck w r s va vn ua un P U K wa wn A N L ga gn Q M X M' X' W' :=
  ⟨h.st.step hb, h.built.below hb, h.c1.step hb, h.c2.step hb⟩
theorem Ck.drew {M X M' X' : Nat} (h : Ck w r s va vn ua un P U K wa wn A N L ga gn Q M X M' X' W) : Ck w r s va vn ua un P U K wa wn A N L ga gn Q M X M' X' W.drew := h.step ((Below.refl _ _).drew)
end
end Go.Proofs.Ytjoiaenkmmmmpaa.TrLaw2Kit
