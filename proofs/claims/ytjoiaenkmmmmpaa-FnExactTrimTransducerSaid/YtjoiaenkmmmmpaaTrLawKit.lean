
/- The state of a law's walk over a transducer that is answered: what is kept when a part of it is marked.
   Conditions: stated at each theorem. -/
import Derived.Test.YtjoiaenkmmmmpaaTrMark
import Derived.Test.YtjoiaenkmmmmpaaMarkRows
import Derived.Test.YtjoiaenkmmmmpaaEdgEq
namespace Go.Proofs.Ytjoiaenkmmmmpaa.TrLawKit
set_option linter.unusedVariables false
set_option linter.unusedSimpArgs false
open Go.RowKit Mem Copy Rel Heap MarkRow MarkBool MarkRows Edg EdgCopy EdgEq TrHeap TrMark

/-- A transducer's lists in memory of their own. -/
structure TrF (w : World) (lo : Nat) (va vn : Value) (nb : Nat) (fb : Nat → Value) (ne : Nat) (fe : Nat → Value) : Prop where
  acc : Row w lo 4 va nb fb
  edg : RowE w lo vn ne fe
/-- Their blocks. -/
def InTr (va : Value) (nb : Nat) (vn : Value) (ne : Nat) (b : Nat) : Prop := (0 < nb ∧ va.ownBlock = some b) ∨ (0 < ne ∧ vn.ownBlock = some b)

section
variable {w w' : World} {lo : Nat} {va vn : Value} {nb ne : Nat} {fb fe : Nat → Value}
theorem TrF.below (h : TrF w lo va vn nb fb ne fe) (hb : Below w.heap.size w w') : TrF w' lo va vn nb fb ne fe := ⟨h.acc.below hb, h.edg.below hb⟩
theorem RowE.only {S : Nat → Prop} {v : Value} {n : Nat} {f : Nat → Value} (h : RowE w lo v n f) (ho : Only S w w') (hn : 0 < n → ∀ k, v.ownBlock = some k → ¬ S k) : RowE w' lo v n f := by
  obtain ⟨a, cap, rfl, hr⟩ := h
  exact ⟨a, cap, rfl, Row.only hr ho fun h0 k hk => hn (by omega) k (by cases a with | none => cases hk | some x => exact hk)⟩
theorem inTr_ge (h : TrF w lo va vn nb fb ne fe) {b : Nat} (hb : InTr va nb vn ne b) : lo ≤ b := by
  rcases hb with ⟨h0, he⟩ | ⟨h0, he⟩
  · obtain ⟨g, m, F, e, hl, -⟩ := Row.owned h.acc h0
    rw [he] at e; cases e; exact hl
  · obtain ⟨g, m, F, e, hl, -⟩ := RowE.owned h.edg h0
    rw [he] at e; cases e; exact hl
theorem inTr_lt (h : TrF w lo va vn nb fb ne fe) {b : Nat} (hb : InTr va nb vn ne b) : b < w.heap.size := by
  rcases hb with ⟨h0, he⟩ | ⟨h0, he⟩
  · obtain ⟨g, m, F, e, hl, r⟩ := Row.owned h.acc h0
    rw [he] at e; cases e; exact r.lt
  · obtain ⟨g, m, F, e, hl, r⟩ := RowE.owned h.edg h0
    rw [he] at e; cases e; exact r.lt
theorem trF_only {S : Nat → Prop} (h : TrF w lo va vn nb fb ne fe) (ho : Only S w w') (hS : ∀ b, InTr va nb vn ne b → ¬ S b) : TrF w' lo va vn nb fb ne fe :=
  ⟨Row.only h.acc ho fun h0 k hk => hS k (.inl ⟨h0, hk⟩), RowE.only h.edg ho fun h0 k hk => hS k (.inr ⟨h0, hk⟩)⟩
theorem Only.alloc' {S : Nat → Prop} (w : World) (o : Obj) : Only S w (w.alloc o) := ⟨rfl, rfl, rfl, by simp, fun b hb _ => Below.heap_alloc _ _ _ hb⟩

set_option maxHeartbeats 2000000 in
theorem markTr (s : Int) (va vn : Value) (nb : Nat) (fb : Nat → Value) (ne : Nat) (fe : Nat → Value) (k : Nat) (lo : Nat) (w : World) (h : TrF w lo va vn nb fb ne fe) (hnb : nb ≤ 1048576) (hne : ne ≤ 1048576) (h1 : 1 ≤ k) (hk : k + nb + ne * 4 ≤ 8388600) :
    Calls Try.prog 21 #[.agg #[.int .i64 s, va, vn], .int .i64 k] w fun e w' => e = .returned (.int .i64 ((k + nb + ne * 4 : Nat) : Int)) ∧ TrF w' lo va vn nb (fun i => .bool (markB (k + i))) ne (markF (k + nb)) ∧ Only (InTr va nb vn ne) w w' := by
  obtain ⟨W, hW⟩ : ∃ W, W = w.alloc (.cells #[.int .i64 s, va, vn] 30) := ⟨_, rfl⟩
  have HW := Lib.hid (show Only (InTr va nb vn ne) w W by rw [hW]; exact Only.alloc' _ _)
  have HF := Lib.hid (show TrF W lo va vn nb fb ne fe by rw [hW]; exact h.below ((Below.refl _ _).alloc (Nat.le_refl _) _))
  have HSZ := Lib.hid (show ¬ InTr va nb vn ne w.heap.size from fun hb => Nat.lt_irrefl _ (inTr_lt h hb))
  have HBX := Lib.hid (show W.heap[w.heap.size]? = some (.cells #[.int .i64 s, va, vn] 30 (0, 0)) by rw [hW]; exact heap_alloc_new _ _)
  have HM := Lib.hid (markBools va nb fb k lo W HF.out.acc (by omega) (by omega))
  obtain ⟨aa, ca, rfl, -⟩ := h.acc
  obtain ⟨ab, cb, rfl, -⟩ := h.edg
  clear h
  go_enter Try.func21, Try.ntmps21
  go_wp2_with fail
  rw [← hW]
  clear hW
  refine HM.out.mono ?_
  rintro e w1 ⟨rfl, hr, hg⟩
  have H1 := Lib.hid (show RowE w1 lo (.slice ab ne cb) ne fe ∧ Only (InTr (.slice aa nb ca) nb (.slice ab ne cb) ne) W w1 from by
    rcases hg with ⟨h0, hg⟩ | rfl
    · obtain ⟨b, m, F, hb, -, hrow⟩ := Row.owned HF.out.acc h0
      rw [hb] at hg
      refine ⟨RowE.only HF.out.edg (Only.of_grown (S := fun x => x = b) hg fun b' e => by cases e; rfl) fun h0' k hk e => ?_, Only.of_grown hg fun b' e => by cases e; exact .inl ⟨h0, hb⟩⟩
      obtain ⟨b2, m2, F2, hb2, -, hrow2⟩ := RowE.owned HF.out.edg h0'
      rw [hk] at hb2; cases hb2
      exact rowIs_apart hrow hrow2 (by decide) e.symm
    · exact ⟨HF.out.edg, Only.refl _ _⟩)
  have hbx : w1.heap[w.heap.size]? = some (.cells #[.int .i64 s, .slice aa nb ca, .slice ab ne cb] 30 (0, 0)) := (H1.out.2.block _ (lt_of_block HBX.out) HSZ.out).trans HBX.out
  have q2 : w1.cell? ⟨w.heap.size, 2, none⟩ = some (.slice ab ne cb) := by simp [World.cell?, hbx]
  have hlb := lt_of_block hbx
  clear hbx
  have H2 := Lib.hid hr
  clear hr hg HM
  have HR := Lib.hid (markEdges (.slice ab ne cb) ne fe (k + nb) lo w1 H1.out.1 hne (by omega) (by omega))
  go_wp2_with fail
  refine HR.out.mono ?_
  rintro e w2 ⟨rfl, hr, hg⟩
  have H3 := Lib.hid hr
  have H4 := Lib.hid (show Row w2 lo 4 (.slice aa nb ca) nb (fun i => .bool (markB (k + i))) ∧ Only (InTr (.slice aa nb ca) nb (.slice ab ne cb) ne) w1 w2 from by
    rcases hg with ⟨h0, hg⟩ | rfl
    · obtain ⟨b, m, F, hb, -, hrow⟩ := RowE.owned H1.out.1 h0
      rw [hb] at hg
      refine ⟨Row.only H2.out (Only.of_grown (S := fun x => x = b) hg fun b' e => by cases e; rfl) fun h0' k hk e => ?_, Only.of_grown hg fun b' e => by cases e; exact .inr ⟨h0, hb⟩⟩
      obtain ⟨b2, m2, F2, hb2, -, hrow2⟩ := Row.owned H2.out h0'
      rw [hk] at hb2; cases hb2
      exact rowIs_apart hrow hrow2 (by decide) e.symm
    · exact ⟨H2.out, Only.refl _ _⟩)
  clear hr hg HR
  go_wp2_with fail
  go_ret
  exact ⟨rfl, ⟨H4.out.1, H3.out⟩, HW.out.trans (H1.out.2.trans H4.out.2)⟩

set_option maxHeartbeats 2000000 in
theorem heldTr (s : Int) (va vn : Value) (nb : Nat) (ne : Nat) (k : Nat) (lo : Nat) (w : World) (h : TrF w lo va vn nb (fun i => .bool (markB (k + i))) ne (markF (k + nb))) (hnb : nb ≤ 1048576) (hne : ne ≤ 1048576) (h1 : 1 ≤ k) (hk : k + nb + ne * 4 ≤ 8388600) :
    Calls Try.prog 22 #[.agg #[.int .i64 s, va, vn], .int .i64 k] w fun e w' => e = .returned (.int .i64 ((k + nb + ne * 4 : Nat) : Int)) ∧ Below w.heap.size w w' := by
  have HH := Lib.hid (show TrF (w.alloc (.cells #[.int .i64 s, va, vn] 30)) lo va vn nb (fun i => .bool (markB (k + i))) ne (markF (k + nb)) from h.below ((Below.refl _ _).alloc (Nat.le_refl _) _))
  have HM := Lib.hid (heldBools va nb k _ _ (HH.out.acc.reads (by unfold maxLen; omega)) (by omega) (by omega))
  have HR := Lib.hid (heldEdges vn ne (k + nb) lo _ HH.out.edg hne (by omega) (by omega))
  have HB0 := Lib.hid (base_box (Below.refl _ w) (.cells #[.int .i64 s, va, vn] 30))
  obtain ⟨aa, ca, rfl, -⟩ := h.acc
  obtain ⟨ab, cb, rfl, -⟩ := h.edg
  clear h
  go_enter Try.func22, Try.ntmps22
  go_wp2_with fail
  refine HM.out.mono ?_
  rintro e w1 ⟨rfl, rfl⟩
  go_wp2_with fail
  refine HR.out.mono ?_
  rintro e w1 ⟨rfl, hb⟩
  have HB1 := Lib.hid (base_step HB0.out hb)
  clear hb
  go_wp2_with fail
  go_ret
  exact ⟨rfl, HB1.out⟩
end

/-- What is built: lists in memory of their own. -/
structure BuiltT (w : World) (B : Nat) (va vn : Value) (A : List Bool) (N : List E) : Prop where
  acc : Lst w B 4 va (A.map Value.bool)
  edg : LstE w B vn N
  fits : ∀ i, i < N.length → (N.getD i noE).Fits
  short : N.length ≤ 100000

def boolF (acc : List Bool) (i : Nat) : Value := .bool (acc.getD i false)
theorem lst_bools' {w : World} {B : Nat} {v : Value} {xs : List Bool} (h : Lst w B 4 v (xs.map Value.bool)) (C : Nat) (hC : w.heap.size ≤ C) : Bools w C v xs := by
  have h1 := h.reads C hC (.bool false)
  rw [List.length_map] at h1
  exact h1.congr fun i hi => by simp [List.getD, hi]
section
variable {w w' : World} {B : Nat} {va vn : Value} {A : List Bool} {N : List E}
theorem BuiltT.below (h : BuiltT w B va vn A N) (hb : Below w.heap.size w w') : BuiltT w' B va vn A N := ⟨h.acc.below hb, h.edg.below hb, h.fits, h.short⟩
theorem BuiltT.mono {C : Nat} (h : BuiltT w B va vn A N) (hC : C ≤ B) : BuiltT w C va vn A N := ⟨h.acc.mono hC, h.edg.mono hC, h.fits, h.short⟩
theorem BuiltT.reads (h : BuiltT w B va vn A N) (C : Nat) (hC : w.heap.size ≤ C) (s : Int) : TrAt w C (.agg #[.int .i64 s, va, vn]) ⟨s, A, N⟩ :=
  ⟨va, vn, rfl, lst_bools' h.acc C hC, h.edg.rowE.edges (by have := h.short; unfold maxLen; omega) h.fits C hC⟩
theorem BuiltT.trF (h : BuiltT w B va vn A N) : TrF w B va vn A.length (boolF A) N.length (edgeF N) := by
  refine ⟨?_, h.edg.rowE⟩
  have e : (A.map Value.bool).length = A.length := by simp
  have := Row.of_owns h.acc (boolF A) (fun i hi => by rw [List.length_map] at hi; simp [boolF, List.getD, hi])
  rwa [e] at this
theorem BuiltT.only {S : Nat → Prop} (h : BuiltT w B va vn A N) (ho : Only S w w') (hS : ∀ b, S b → b < B) : BuiltT w' B va vn A N :=
  ⟨h.acc.of_block fun k hk => ho.block k (h.acc.lt hk) (fun e => by have := hS k e; have := h.acc.ge hk; omega), h.edg.of_block fun k hk => ho.block k (h.edg.lt hk) (fun e => by have := hS k e; have := h.edg.ge hk; omega), h.fits, h.short⟩
end
/-- So is a law's copy of its argument, and its blocks lie between two numbers. -/
theorem own_trF {W : World} {M : Nat} {t : T} (h : OwnT W M t) :
    TrF W M (.slice (some ⟨M, 0, none⟩) t.accept.length t.accept.length) (.slice (some ⟨M + 1, 0, none⟩) t.edges.length t.edges.length) t.accept.length (boolF t.accept) t.edges.length (edgeF t.edges) ∧
      ∀ b, InTr (.slice (some ⟨M, 0, none⟩) t.accept.length t.accept.length) t.accept.length (.slice (some ⟨M + 1, 0, none⟩) t.edges.length t.edges.length) t.edges.length b → M ≤ b ∧ b < M + 2 := by
  refine ⟨⟨Row.of_row h.fresh.accept, (RowE.of_row h.fresh.edges).mono (Nat.le_succ _)⟩, fun b hb => ?_⟩
  rcases hb with ⟨-, he⟩ | ⟨-, he⟩
  · cases he; show M ≤ M ∧ M < M + 2; omega
  · cases he; show M ≤ M + 1 ∧ M + 1 < M + 2; omega

theorem Kept3.only {S : Nat → Prop} {w w' : World} {b : Nat} {x0 x1 x2 : Value} (h : Kept3 w b x0 x1 x2) (ho : Only S w w') (hn : ¬ S b) : Kept3 w' b x0 x1 x2 := by
  have e : ∀ i, w'.cell? ⟨b, i, none⟩ = w.cell? ⟨b, i, none⟩ := fun i => World.cell?_of_block (w := w) (ho.block b h.lt hn)
  exact ⟨(e 0).trans h.c0, (e 1).trans h.c1, (e 2).trans h.c2, Nat.lt_of_lt_of_le h.lt ho.size⟩

/-- A transducer that is read, and behind it the box in which it lies. -/
structure WK (P : Nat) (K : Int) (va vn : Value) (A : List Bool) (N : List E) (W : World) : Prop where
  tr : TrAt W P (.agg #[.int .i64 K, va, vn]) ⟨K, A, N⟩
  box : Kept3 W P (.int .i64 K) va vn
section
variable {P : Nat} {K : Int} {va vn : Value} {A : List Bool} {N : List E} {W W' : World}
theorem WK.low (h : WK P K va vn A N W) (hb : Below (P + 1) W W') : WK P K va vn A N W' :=
  ⟨h.tr.below hb (Nat.le_succ P), h.box.low hb (Nat.lt_succ_self P) (Nat.lt_of_lt_of_le h.box.lt hb.size)⟩
theorem WK.step (h : WK P K va vn A N W) (hb : Below W.heap.size W W') : WK P K va vn A N W' := h.low (hb.mono h.box.lt)
theorem WK.new {w : World} {B : Nat} (h : BuiltT w B va vn A N) (t : TypeId) : WK w.heap.size K va vn A N (w.alloc (.cells #[.int .i64 K, va, vn] t)) :=
  ⟨(h.reads w.heap.size (Nat.le_refl _) K).below ((Below.refl _ _).alloc (Nat.le_refl _) _) (Nat.le_refl _), Kept3.new _ _ _ _ _⟩
theorem WK.read (h : WK P K va vn A N W) : TrAt W W.heap.size (.agg #[.int .i64 K, va, vn]) ⟨K, A, N⟩ := h.tr.mono (Nat.le_of_lt h.box.lt)
end

/-- What is kept by all that is laid behind block Lo. -/
def Keeps (Lo : Nat) (X : World → Prop) : Prop := ∀ W W', X W → Below Lo W W' → X W'

/-- The law's state: what its arguments are (X), the model's answer, the program's answer. -/
structure St (w : World) (Lo : Nat) (X : World → Prop) (P : Nat) (K : Int) (wa wn : Value) (A : List Bool) (N : List E) (L : Nat) (ga gn : Value) (Q : Nat) (fb fe : Nat → Value) (W : World) : Prop where
  base : Below w.heap.size w W
  ext : X W
  wk : WK P K wa wn A N W
  trf : TrF W L ga gn A.length fb N.length fe
  gb : Kept3 W Q (.int .i64 K) ga gn
  out : ¬ InTr ga A.length gn N.length Q
  hPL : P < L
  hLo : Lo ≤ P
  hwL : w.heap.size ≤ Lo
  hLQ : L ≤ Q
section
variable {w : World} {Lo : Nat} {X : World → Prop} {P : Nat} {K : Int} {wa wn : Value} {A : List Bool} {N : List E} {L : Nat} {ga gn : Value} {Q : Nat} {fb fe : Nat → Value} {W W' : World}
theorem St.lL (h : St w Lo X P K wa wn A N L ga gn Q fb fe W) : L ≤ W.heap.size := Nat.le_of_lt (Nat.lt_of_le_of_lt h.hLQ h.gb.lt)
theorem St.step (hX : Keeps Lo X) (h : St w Lo X P K wa wn A N L ga gn Q fb fe W) (hb : Below W.heap.size W W') : St w Lo X P K wa wn A N L ga gn Q fb fe W' :=
  ⟨base_step h.base hb, hX _ _ h.ext (hb.mono (by have := h.lL; have := h.hPL; have := h.hLo; omega)), h.wk.step hb, h.trf.below hb, h.gb.step hb, h.out, h.hPL, h.hLo, h.hwL, h.hLQ⟩
theorem St.drew (hX : Keeps Lo X) (h : St w Lo X P K wa wn A N L ga gn Q fb fe W) : St w Lo X P K wa wn A N L ga gn Q fb fe W.drew := h.step hX ((Below.refl _ _).drew)
/-- What lies between the two answers is marked. -/
theorem St.markX {S : Nat → Prop} (hX : Keeps Lo X) (h : St w Lo X P K wa wn A N L ga gn Q fb fe W) (ho : Only S W W') (hS : ∀ b, S b → P < b ∧ b < L) : St w Lo X P K wa wn A N L ga gn Q fb fe W' :=
  have hbP : Below (P + 1) W W' := ho.below (fun b hb => by have := hS b hb; omega) (by have := h.lL; have := h.hPL; omega)
  ⟨h.base.trans (ho.below (fun b hb => by have := hS b hb; have := h.hLo; have := h.hwL; omega) h.base.size), hX _ _ h.ext (hbP.mono (by have := h.hLo; omega)),
   h.wk.low hbP, trF_only h.trf ho (fun b hb e => by have := hS b e; have := inTr_ge h.trf hb; omega), Kept3.only h.gb ho (fun e => by have := hS _ e; have := h.hLQ; omega), h.out, h.hPL, h.hLo, h.hwL, h.hLQ⟩
/-- The program's answer is marked. -/
theorem St.markG {fb' fe' : Nat → Value} (hX : Keeps Lo X) (h : St w Lo X P K wa wn A N L ga gn Q fb fe W) (ho : Only (InTr ga A.length gn N.length) W W') (hr : TrF W' L ga gn A.length fb' N.length fe') : St w Lo X P K wa wn A N L ga gn Q fb' fe' W' :=
  have hbP : Below (P + 1) W W' := ho.below (fun b hb => by have := inTr_ge h.trf hb; have := h.hPL; omega) (by have := h.lL; have := h.hPL; omega)
  ⟨h.base.trans (ho.below (fun b hb => by have := inTr_ge h.trf hb; have := h.hPL; have := h.hLo; have := h.hwL; omega) h.base.size), hX _ _ h.ext (hbP.mono (by have := h.hLo; omega)),
   h.wk.low hbP, hr, Kept3.only h.gb ho h.out, h.out, h.hPL, h.hLo, h.hwL, h.hLQ⟩
end
end Go.Proofs.Ytjoiaenkmmmmpaa.TrLawKit
