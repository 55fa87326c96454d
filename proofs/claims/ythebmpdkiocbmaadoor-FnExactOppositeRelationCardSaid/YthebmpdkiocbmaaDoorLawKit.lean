
/- The state of a law's walk over a relation that is answered: what is kept when a part of it is marked.
   Conditions: stated at each theorem. -/
import Derived.Test.YthebmpdkiocbmaaDoorMarkOf
import Derived.Test.YthebmpdkiocbmaaDoorTidyDefs
namespace Go.Proofs.YthebmpdkiocbmaaDoor.LawKit
set_option linter.unusedVariables false
set_option linter.unusedSimpArgs false
open Go.RowKit Mem Copy Rel Valid Heap Bld MarkRow MarkBool MarkRows MarkRel MarkOf ToL TidyAuto TidyRight SpecRight SpecTidyRel

theorem sumTo_le (n : Nat → Nat) (q N : Nat) (h : ∀ i, n i ≤ q) : sumTo n N ≤ N * q := by
  induction N with
  | zero => simp [sumTo]
  | succ N ih => simp only [sumTo]; have := h N; rw [Nat.succ_mul]; omega
theorem sumTo_take (xss : List (List Int)) (k : Nat) (hk : k ≤ xss.length) : sumTo (lenF xss) k = ((xss.map List.length).take k).sum := by
  induction k with
  | zero => simp [sumTo]
  | succ k ih =>
    have h1 : k < xss.length := hk
    have h2 : k < (xss.map List.length).length := by rw [List.length_map]; exact h1
    have h3 : lenF xss k = xss[k].length := by simp [lenF, List.getD, h1]
    simp only [sumTo]
    rw [ih (by omega), List.take_succ_eq_append_getElem h2, List.sum_append, List.getElem_map, h3]
    simp
theorem szRowsTo_sum (xss : List (List Int)) : ∀ left : Int, 0 ≤ szRowsTo left xss → (((xss.map List.length).sum : Nat) : Int) ≤ left := by
  induction xss with
  | nil => intro left h; simpa [szRowsTo] using h
  | cons y r ih =>
    intro left h
    unfold szRowsTo at h
    by_cases hc : left < (y.length : Int)
    · rw [if_pos hc] at h; omega
    · rw [if_neg hc] at h
      have := ih _ h
      simp only [List.map_cons, List.sum_cons]
      omega
theorem szRel_sum {r : R} (h : 0 ≤ szRel 1048576 r) : r.accept.length + r.next.length + sumTo (lenF r.next) r.next.length ≤ 1048576 := by
  rw [sumTo_take _ _ (Nat.le_refl _), List.take_of_length_le (by rw [List.length_map]; exact Nat.le_refl _)]
  unfold szRel at h
  by_cases h1 : (1048576 : Int) < (r.accept.length : Int)
  · rw [if_pos h1] at h; omega
  · rw [if_neg h1] at h
    unfold szRows at h
    by_cases h2 : (1048576 : Int) - r.accept.length < (r.next.length : Int)
    · rw [if_pos h2] at h; omega
    · rw [if_neg h2] at h
      have := szRowsTo_sum _ _ h
      omega

theorem tidyA_len (r : R) : (tidyA r).length ≤ 150 := by
  unfold tidyA
  by_cases h : few r = true
  · rw [if_pos h]
    unfold few at h
    rw [Bool.and_eq_true] at h
    exact of_decide_eq_true h.2
  · rw [if_neg h]; exact Nat.zero_le _
theorem tidyN_len (r : R) : (tidyN r).length = (tidyA r).length := by
  unfold tidyA tidyN
  by_cases h : few r = true
  · rw [if_pos h, if_pos h]; unfold tidyNext tidyAcc TidyAuto.tidNext TidyAuto.tidAcc; rw [List.length_map, List.length_map]
  · rw [if_neg h, if_neg h]; rfl
theorem nxM_len (l : L) (s : Nat) : ((nxM l).getD s []).length ≤ wide l.k := by
  by_cases hs : s < (nxM l).length
  · rw [List.getD, List.getElem?_eq_getElem hs, Option.getD_some]
    have hm := List.getElem_mem hs
    unfold nxM at hm
    rw [List.mem_append] at hm
    rcases hm with hm | hm
    · obtain ⟨p, -, hp⟩ := List.mem_map.1 hm
      unfold nxM
      rw [← hp, rowM_length]; exact Nat.le_refl _
    · have := List.mem_singleton.1 hm
      unfold nxM
      rw [this, List.length_replicate]; exact Nat.le_refl _
  · rw [List.getD, List.getElem?_eq_none (by omega)]; exact Nat.zero_le _
theorem tidyN_row (r : R) (i : Nat) : lenF (tidyN r) i ≤ 26 := by
  unfold lenF tidyN
  by_cases h : few r = true
  · rw [if_pos h]
    have hk : wide (toL r).k ≤ 26 := by
      unfold few okB at h
      rw [Bool.and_eq_true, Bool.and_eq_true] at h
      have := (relOf_toL h.1.2).2
      have := wide_cases this.k0 this.k3
      omega
    by_cases hi : i < (tidyNext (toL r)).length
    · rw [List.getD, List.getElem?_eq_getElem hi, Option.getD_some]
      have hm := List.getElem_mem hi
      obtain ⟨s, -, hs⟩ := List.mem_map.1 (show _ ∈ (tid (auM (toL r)) 0).map (tidRow (auM (toL r)) 0) from hm)
      rw [← hs]
      unfold tidRow
      rw [List.length_map]
      exact Nat.le_trans (nxM_len _ s) hk
    · rw [List.getD, List.getElem?_eq_none (by omega)]; exact Nat.zero_le _
  · rw [if_neg h]; simp [List.getD]
theorem tidy_sum (r : R) : 1 + (tidyA r).length + sumTo (lenF (tidyN r)) (tidyN r).length ≤ 5000 := by
  have h1 := sumTo_le (lenF (tidyN r)) 26 (tidyN r).length (tidyN_row r)
  have h2 := tidyN_len r
  have h3 := tidyA_len r
  omega

theorem built_only {S : Nat → Prop} {w w' : World} {B : Nat} {va vn : Value} {acc : List Bool} {nx : List (List Int)} (h : Built w B va vn acc nx) (ho : Only S w w') (hS : ∀ b, S b → b < B) : Built w' B va vn acc nx := by
  obtain ⟨items, h1, h2, h3⟩ := h.rows
  have hk : ∀ (t : TypeId) (v : Value) (xs : List Value), Lst w B t v xs → ∀ k, v.ownBlock = some k → w'.heap[k]? = w.heap[k]? := fun t v xs hl k hk => ho.block k (hl.lt hk) (fun e => by have := hS k e; have := hl.ge hk; omega)
  exact ⟨h.acc.of_block (hk _ _ _ h.acc), items, h1.of_block (fun p hp => hk _ _ _ (h1.lst p hp)), h2.of_block (hk _ _ _ h2), h3⟩
theorem row_ge {w : World} {lo : Nat} {t : TypeId} {v : Value} {n : Nat} {f : Nat → Value} (h : Row w lo t v n f) (hn : 0 < n) (k : Nat) (hk : v.ownBlock = some k) : lo ≤ k := by
  obtain ⟨g, m, F, e, hl, -⟩ := Row.owned h hn
  rw [hk] at e; cases e; exact hl
theorem inRel_ge {w : World} {lo : Nat} {va vn : Value} {nb : Nat} {fb : Nat → Value} {N : Nat} {V : Nat → Value} {n : Nat → Nat} {f : Nat → Nat → Value} (h : RelF w lo va vn nb fb N V n f) {b : Nat} (hb : InRel va nb N V n b) : lo ≤ b := by
  rcases hb with ⟨h0, he⟩ | ⟨i, hi, h0, he⟩
  · exact row_ge h.acc h0 b he
  · exact row_ge (h.nxt.rows i hi) h0 b he
theorem relF_only {S : Nat → Prop} {w w' : World} {lo : Nat} {va vn : Value} {nb : Nat} {fb : Nat → Value} {N : Nat} {V : Nat → Value} {n : Nat → Nat} {f : Nat → Nat → Value} (h : RelF w lo va vn nb fb N V n f) (ho : Only S w w') (hS : ∀ b, S b → b < lo) : RelF w' lo va vn nb fb N V n f :=
  ⟨Row.only h.acc ho fun hn k hk e => by have := row_ge h.acc hn k hk; have := hS k e; omega,
   Row.only h.nxt.head ho fun hn k hk e => by have := row_ge h.nxt.head hn k hk; have := hS k e; omega,
   fun i hi => Row.only (h.nxt.rows i hi) ho fun hn k hk e => by have := row_ge (h.nxt.rows i hi) hn k hk; have := hS k e; omega, h.nxt.apart⟩
theorem Four.only {S : Nat → Prop} {w w' : World} {b : Nat} {x0 x1 x2 x3 : Value} (h : Four w b x0 x1 x2 x3) (ho : Only S w w') (hb : b < w.heap.size) (hn : ¬ S b) : Four w' b x0 x1 x2 x3 := by
  have e : ∀ i, w'.cell? ⟨b, i, none⟩ = w.cell? ⟨b, i, none⟩ := fun i => World.cell?_of_block (w := w) (ho.block b hb hn)
  exact ⟨(e 0).trans h.c0, (e 1).trans h.c1, (e 2).trans h.c2, (e 3).trans h.c3⟩
theorem Kept.only {S : Nat → Prop} {w w' : World} {b : Nat} {x0 x1 x2 x3 : Value} (h : Kept w b x0 x1 x2 x3) (ho : Only S w w') (hn : ¬ S b) : Kept w' b x0 x1 x2 x3 :=
  ⟨Four.only h.four ho h.lt hn, Nat.lt_of_lt_of_le h.lt ho.size⟩
theorem Kept.drewN {W : World} {b : Nat} {x0 x1 x2 x3 : Value} (h : Kept W b x0 x1 x2 x3) (m : Nat) : Kept (W.drewN m) b x0 x1 x2 x3 := ⟨⟨h.four.c0, h.four.c1, h.four.c2, h.four.c3⟩, h.lt⟩

/-- A relation that is read, and behind it the box in which it lies. -/
structure WK (P : Nat) (K : Int) (va vn : Value) (A : List Bool) (N : List (List Int)) (W : World) : Prop where
  rel : RelAt W P (.agg #[.int .i64 K, .int .i64 0, va, vn]) ⟨K, 0, A, N⟩
  box : Kept W P (.int .i64 K) (.int .i64 0) va vn
theorem WK.low {P : Nat} {K : Int} {va vn : Value} {A : List Bool} {N : List (List Int)} {W W' : World} (h : WK P K va vn A N W) (hb : Below (P + 1) W W') : WK P K va vn A N W' :=
  ⟨h.rel.below hb (Nat.le_succ P), ⟨h.box.four.below hb (Nat.lt_succ_self P), Nat.lt_of_lt_of_le h.box.lt hb.size⟩⟩
theorem WK.step {P : Nat} {K : Int} {va vn : Value} {A : List Bool} {N : List (List Int)} {W W' : World} (h : WK P K va vn A N W) (hb : Below W.heap.size W W') : WK P K va vn A N W' :=
  h.low (hb.mono h.box.lt)
theorem WK.new {w : World} {B : Nat} {K : Int} {va vn : Value} {A : List Bool} {N : List (List Int)} (h : Built w B va vn A N) (t : TypeId) : WK w.heap.size K va vn A N (w.alloc (.cells #[.int .i64 K, .int .i64 0, va, vn] t)) :=
  ⟨(h.reads w.heap.size (Nat.le_refl _) K 0).below ((Below.refl _ _).alloc (Nat.le_refl _) _) (Nat.le_refl _), Kept.new _ _ _ _ _ _⟩
theorem WK.read {P : Nat} {K : Int} {va vn : Value} {A : List Bool} {N : List (List Int)} {W : World} (h : WK P K va vn A N W) : RelAt W W.heap.size (.agg #[.int .i64 K, .int .i64 0, va, vn]) ⟨K, 0, A, N⟩ :=
  h.rel.mono (Nat.le_of_lt h.box.lt)

/-- The law's state: its argument's box, the model's answer, the program's answer. -/
structure St (w : World) (t s : Int) (va vn : Value) (P : Nat) (K : Int) (wa wn : Value) (A : List Bool) (N : List (List Int)) (L : Nat) (ga gn : Value) (V : Nat → Value) (Q : Nat) (fb : Nat → Value) (f : Nat → Nat → Value) (W : World) : Prop where
  base : Below w.heap.size w W
  arg : Kept W w.heap.size (.int .i64 t) (.int .i64 s) va vn
  wk : WK P K wa wn A N W
  relf : RelF W L ga gn A.length fb N.length V (lenF N) f
  gb : Kept W Q (.int .i64 K) (.int .i64 0) ga gn
  out : ¬ InRel ga A.length N.length V (lenF N) Q
  hPL : P < L
  hwL : w.heap.size < L
  hLQ : L ≤ Q

section
variable {w : World} {t s : Int} {va vn : Value} {P : Nat} {K : Int} {wa wn : Value} {A : List Bool} {N : List (List Int)} {L : Nat} {ga gn : Value} {V : Nat → Value} {Q : Nat} {fb : Nat → Value} {f : Nat → Nat → Value} {W W' : World}
theorem St.step (h : St w t s va vn P K wa wn A N L ga gn V Q fb f W) (hb : Below W.heap.size W W') : St w t s va vn P K wa wn A N L ga gn V Q fb f W' :=
  ⟨base_step h.base hb, h.arg.step hb, h.wk.step hb, h.relf.below hb, h.gb.step hb, h.out, h.hPL, h.hwL, h.hLQ⟩
theorem St.drew (h : St w t s va vn P K wa wn A N L ga gn V Q fb f W) : St w t s va vn P K wa wn A N L ga gn V Q fb f W.drew := h.step ((Below.refl _ _).drew)
theorem St.lL (h : St w t s va vn P K wa wn A N L ga gn V Q fb f W) : L ≤ W.heap.size := Nat.le_of_lt (Nat.lt_of_le_of_lt h.hLQ h.gb.lt)
/-- What lies between the two answers is marked. -/
theorem St.markX {S : Nat → Prop} (h : St w t s va vn P K wa wn A N L ga gn V Q fb f W) (ho : Only S W W') (hS : ∀ b, S b → P < b ∧ w.heap.size < b ∧ b < L) : St w t s va vn P K wa wn A N L ga gn V Q fb f W' :=
  ⟨h.base.trans (ho.below (fun b hb => by have := hS b hb; omega) h.base.size), Kept.only h.arg ho (fun e => by have := hS _ e; omega),
   h.wk.low (ho.below (fun b hb => by have := hS b hb; omega) (by have := h.lL; have := h.hPL; omega)), relF_only h.relf ho (fun b hb => by have := hS b hb; omega), Kept.only h.gb ho (fun e => by have := hS _ e; have := h.hLQ; omega), h.out, h.hPL, h.hwL, h.hLQ⟩
/-- The program's answer is marked. -/
theorem St.markG {fb' : Nat → Value} {f' : Nat → Nat → Value} (h : St w t s va vn P K wa wn A N L ga gn V Q fb f W) (ho : Only (InRel ga A.length N.length V (lenF N)) W W') (hr : RelF W' L ga gn A.length fb' N.length V (lenF N) f') : St w t s va vn P K wa wn A N L ga gn V Q fb' f' W' :=
  ⟨h.base.trans (ho.below (fun b hb => by have := inRel_ge h.relf hb; have := h.hwL; omega) h.base.size), Kept.only h.arg ho (fun e => by have := inRel_ge h.relf e; have := h.hwL; omega),
   h.wk.low (ho.below (fun b hb => by have := inRel_ge h.relf hb; have := h.hPL; omega) (by have := h.lL; have := h.hPL; omega)), hr, Kept.only h.gb ho h.out, h.out, h.hPL, h.hwL, h.hLQ⟩

/-- The same before anything is marked, with the program's argument. -/
structure Ck (w : World) (r : R) (va vn : Value) (P : Nat) (K : Int) (wa wn : Value) (A : List Bool) (N : List (List Int)) (L : Nat) (ga gn : Value) (V : Nat → Value) (Q : Nat) (M X : Nat) (W : World) : Prop where
  st : St w r.tapes r.start va vn P K wa wn A N L ga gn V Q (boolF A) (intF N) W
  built : Built W L ga gn A N
  own : Rel.Own W M r
  xb : Kept W X (.int .i64 r.tapes) (.int .i64 r.start) (.slice (some ⟨M, 0, none⟩) r.accept.length r.accept.length) (.slice (some ⟨M + 1, 0, none⟩) r.next.length r.next.length)
theorem Ck.step {r : R} {M X : Nat} (h : Ck w r va vn P K wa wn A N L ga gn V Q M X W) (hb : Below W.heap.size W W') : Ck w r va vn P K wa wn A N L ga gn V Q M X W' :=
  ⟨h.st.step hb, h.built.below hb, h.own.step hb, h.xb.step hb⟩
theorem Ck.drew {r : R} {M X : Nat} (h : Ck w r va vn P K wa wn A N L ga gn V Q M X W) : Ck w r va vn P K wa wn A N L ga gn V Q M X W.drew := h.step ((Below.refl _ _).drew)
end
theorem copyOwn' (v : Value) (r : R) (W : World) (B : Nat) (hr : RelAt W B v r) (hB : B ≤ W.heap.size) (hs : Short r) :
    Calls Tryd.prog 12 #[v] W fun e w' => ∃ M, e = .returned (freshV M r) ∧ Rel.Own w' M r ∧ Below W.heap.size W w' ∧ W.heap.size ≤ M :=
  (copyRel v r W B hr hB hs).mono fun _ _ ⟨M, he, h1, h2, hf, hb⟩ => ⟨M, he, ⟨hf, h2⟩, hb, h1⟩
end Go.Proofs.YthebmpdkiocbmaaDoor.LawKit
