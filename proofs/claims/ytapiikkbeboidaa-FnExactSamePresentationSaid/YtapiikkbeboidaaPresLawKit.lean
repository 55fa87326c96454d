
/- The state of the laws' walks over presentations.
   Conditions: stated at each theorem. -/
import Derived.Test.YtapiikkbeboidaaPresEq
namespace Go.Proofs.Ytapiikkbeboidaa.PresLawKit
set_option linter.unusedVariables false
set_option linter.unusedSimpArgs false
open Go.RowKit Mem Rel Pres PresCopy PresEq

/-- Five cells of a block that is there. -/
structure Kept5 (W : World) (b : Nat) (x0 x1 x2 x3 x4 : Value) : Prop where
  c0 : W.cell? ⟨b, 0, none⟩ = some x0
  c1 : W.cell? ⟨b, 1, none⟩ = some x1
  c2 : W.cell? ⟨b, 2, none⟩ = some x2
  c3 : W.cell? ⟨b, 3, none⟩ = some x3
  c4 : W.cell? ⟨b, 4, none⟩ = some x4
  lt : b < W.heap.size
section
variable {W W' : World} {b : Nat} {x0 x1 x2 x3 x4 : Value}
theorem Kept5.step (h : Kept5 W b x0 x1 x2 x3 x4) (hb : Below W.heap.size W W') : Kept5 W' b x0 x1 x2 x3 x4 :=
  ⟨(hb.cell (p := ⟨b, 0, none⟩) h.lt).trans h.c0, (hb.cell (p := ⟨b, 1, none⟩) h.lt).trans h.c1, (hb.cell (p := ⟨b, 2, none⟩) h.lt).trans h.c2, (hb.cell (p := ⟨b, 3, none⟩) h.lt).trans h.c3, (hb.cell (p := ⟨b, 4, none⟩) h.lt).trans h.c4, Nat.lt_of_lt_of_le h.lt hb.size⟩
theorem Kept5.box (h : Kept5 W b x0 x1 x2 x3 x4) (o : Obj) : Kept5 (W.alloc o) b x0 x1 x2 x3 x4 := h.step ((Below.refl _ _).alloc (Nat.le_refl _) _)
theorem Kept5.new (W : World) (x0 x1 x2 x3 x4 : Value) (t : TypeId) : Kept5 (W.alloc (.cells #[x0, x1, x2, x3, x4] t)) W.heap.size x0 x1 x2 x3 x4 :=
  ⟨boxed .., boxed .., boxed .., boxed .., boxed .., by simp⟩
theorem OwnP.box {D G : Nat} {Ms : Nat → Nat} {p : P} (h : OwnP W D G Ms p) (o : Obj) : OwnP (W.alloc o) D G Ms p := h.step ((Below.refl _ _).alloc (Nat.le_refl _) _)
end
/-- The box of a law's argument, that of the program's, and its lists. -/
abbrev ArgBox (W : World) (b : Nat) (p : P) (va vn vr : Value) : Prop := Kept5 W b (.int .i64 p.dom.tapes) (.int .i64 p.dom.start) va vn vr
abbrev CopyBox (W : World) (X : Nat) (D G : Nat) (p : P) : Prop :=
  Kept5 W X (.int .i64 p.dom.tapes) (.int .i64 p.dom.start) (.slice (some ⟨D, 0, none⟩) p.dom.accept.length p.dom.accept.length) (.slice (some ⟨D + 1, 0, none⟩) p.dom.next.length p.dom.next.length) (.slice (some ⟨G, 0, none⟩) p.rels.length p.rels.length)
abbrev argObj (p : P) (va vn vr : Value) (t : TypeId) : Obj := .cells #[.int .i64 p.dom.tapes, .int .i64 p.dom.start, va, vn, vr] t
abbrev copyObj (D G : Nat) (p : P) : Obj :=
  .cells #[.int .i64 p.dom.tapes, .int .i64 p.dom.start, .slice (some ⟨D, 0, none⟩) p.dom.accept.length p.dom.accept.length, .slice (some ⟨D + 1, 0, none⟩) p.dom.next.length p.dom.next.length, .slice (some ⟨G, 0, none⟩) p.rels.length p.rels.length] 34
end Go.Proofs.Ytapiikkbeboidaa.PresLawKit
