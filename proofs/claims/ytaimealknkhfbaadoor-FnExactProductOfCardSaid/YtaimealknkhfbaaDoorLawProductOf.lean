
/- The law of ProductOf: what the program answers is what the model answers, in memory of its own, and the arguments stay as they were.
   Conditions: the arguments are read as XRel's text says. -/
import Derived.Test.YtaimealknkhfbaaDoorRB30
import Derived.Test.YtaimealknkhfbaaDoorProdS
import Derived.Test.YtaimealknkhfbaaDoorProdFn
import Derived.Deep.RegionWith
import Derived.Deep.RegionHeld3
import Derived.Deep.DrawnRows
namespace Go.Proofs.YtaimealknkhfbaaDoor.LawProductOf
set_option linter.unusedVariables false
set_option linter.unusedSimpArgs false
open Go.RowKit Mem Copy Rel Valid Heap Bld MarkRow MarkBool MarkRows MarkRel MarkOf LawKit

theorem szRowsTo_eq (xss : List (List Int)) : ∀ left : Int, 0 ≤ szRowsTo left xss → szRowsTo left xss + (((xss.map List.length).sum : Nat) : Int) = left := by
  induction xss with
  | nil => intro left h; simp [szRowsTo]
  | cons y r ih =>
    intro left h
    unfold szRowsTo at h ⊢
    by_cases hc : left < (y.length : Int)
    · rw [if_pos hc] at h; omega
    · rw [if_neg hc] at h ⊢
      have := ih _ h
      simp only [List.map_cons, List.sum_cons]
      omega
theorem szRel_eq {left : Int} {r : R} (h : 0 ≤ szRel left r) : szRel left r + ((r.accept.length + r.next.length + sumTo (lenF r.next) r.next.length : Nat) : Int) = left := by
  rw [sumTo_take _ _ (Nat.le_refl _), List.take_of_length_le (by rw [List.length_map]; exact Nat.le_refl _)]
  unfold szRel at h ⊢
  by_cases h1 : left < (r.accept.length : Int)
  · rw [if_pos h1] at h; omega
  · rw [if_neg h1] at h ⊢
    unfold szRows at h ⊢
    by_cases h2 : left - r.accept.length < (r.next.length : Int)
    · rw [if_pos h2] at h; omega
    · rw [if_neg h2] at h ⊢
      have := szRowsTo_eq _ _ h
      omega
theorem short_of' {r : R} {left : Int} (hl : left ≤ 1048576) (h : 0 ≤ szRel left r) : Short r := by
  obtain ⟨a, b, c⟩ := szRel_bounds h
  exact ⟨by omega, by omega, fun i hi => by have := c i hi; omega⟩

/-- The arguments' boxes. -/
structure Ar (w : World) (r s : R) (va vn ua un : Value) (W : World) : Prop where
  a : Kept W w.heap.size (.int .i64 r.tapes) (.int .i64 r.start) va vn
  b : Kept W (w.heap.size + 1) (.int .i64 s.tapes) (.int .i64 s.start) ua un
theorem kept_low {B : Nat} {W W' : World} {b : Nat} {x0 x1 x2 x3 : Value} (h : Kept W b x0 x1 x2 x3) (hb : Below B W W') (hB : b < B) : Kept W' b x0 x1 x2 x3 :=
  ⟨h.four.below hb hB, Nat.lt_of_lt_of_le h.lt hb.size⟩
theorem ar_keeps (w : World) (r s : R) (va vn ua un : Value) (W W' : World) (h : Ar w r s va vn ua un W) (hb : Below (w.heap.size + 2) W W') : Ar w r s va vn ua un W' :=
  ⟨kept_low h.a hb (by omega), kept_low h.b hb (by omega)⟩

/-- A copy of an argument, and the box in which it lies. -/
structure Cp (r : R) (M X : Nat) (W : World) : Prop where
  own : Rel.Own W M r
  xb : Kept W X (.int .i64 r.tapes) (.int .i64 r.start) (.slice (some ⟨M, 0, none⟩) r.accept.length r.accept.length) (.slice (some ⟨M + 1, 0, none⟩) r.next.length r.next.length)
  hX : M + 2 + r.next.length ≤ X
theorem Cp.step {r : R} {M X : Nat} {W W' : World} (h : Cp r M X W) (hb : Below W.heap.size W W') : Cp r M X W' := ⟨h.own.step hb, h.xb.step hb, h.hX⟩
theorem Cp.new {r : R} {M : Nat} {W : World} (h : Rel.Own W M r) (t : TypeId) : Cp r M W.heap.size (W.alloc (.cells #[.int .i64 r.tapes, .int .i64 r.start, .slice (some ⟨M, 0, none⟩) r.accept.length r.accept.length, .slice (some ⟨M + 1, 0, none⟩) r.next.length r.next.length] t)) :=
  ⟨h.box _, Kept.new _ _ _ _ _ _, h.top⟩
/-- The model's answer in its box, wherever the box was made. -/
structure Ma (w : World) (r s : R) (va vn ua un : Value) (P U : Nat) (K : Int) (wa wn : Value) (A : List Bool) (N : List (List Int)) (W : World) : Prop where
  base : Below w.heap.size w W
  ar : Ar w r s va vn ua un W
  rel : RelAt W U (.agg #[.int .i64 K, .int .i64 0, wa, wn]) ⟨K, 0, A, N⟩
  box : Kept W P (.int .i64 K) (.int .i64 0) wa wn
  hP : w.heap.size + 2 ≤ P
  hPU : P < U
  hU : U ≤ W.heap.size
theorem kept_of {W : World} {P : Nat} {x0 x1 x2 x3 : Value} {t : TypeId} (h : W.heap[P]? = some (.cells #[x0, x1, x2, x3] t (0, 0))) : Kept W P x0 x1 x2 x3 := by
  have y0 := cells_get h 0
  have y1 := cells_get h 1
  have y2 := cells_get h 2
  have y3 := cells_get h 3
  simp at y0 y1 y2 y3
  exact ⟨⟨y0, y1, y2, y3⟩, lt_of_block h⟩
theorem ma_late {w : World} {r s : R} {va vn ua un : Value} {K : Int} {wa wn : Value} {A : List Bool} {N : List (List Int)} {B : Nat} {W : World} (hb : Below w.heap.size w W) (ha : Ar w r s va vn ua un W) (hbu : Built W B wa wn A N) (t : TypeId) :
    Ma w r s va vn ua un W.heap.size (W.heap.size + 1) K wa wn A N (W.alloc (.cells #[.int .i64 K, .int .i64 0, wa, wn] t)) :=
  ⟨base_box hb _, ⟨ha.a.box _, ha.b.box _⟩, ((hbu.reads W.heap.size (Nat.le_refl _) K 0).below ((Below.refl _ _).alloc (Nat.le_refl _) _) (Nat.le_refl _)).mono (Nat.le_succ _), Kept.new _ _ _ _ _ _, ha.b.lt, Nat.lt_succ_self _, by rw [size_alloc']; exact Nat.le_refl _⟩
theorem ma_early {w : World} {r s : R} {va vn ua un : Value} {K : Int} {wa wn : Value} {A : List Bool} {N : List (List Int)} {B P : Nat} {W : World} {t : TypeId} (hb : Below w.heap.size w W) (ha : Ar w r s va vn ua un W) (hbu : Built W B wa wn A N) (hP : w.heap.size + 2 ≤ P) (hPB : P < B) (hbx : W.heap[P]? = some (.cells #[Value.int .i64 0, .int .i64 0, .slice none 0 0, .slice none 0 0] t (0, 0))) :
    Ma w r s va vn ua un P W.heap.size K wa wn A N ((((W.setCell ⟨P, 0, none⟩ (.int .i64 K)).setCell ⟨P, 1, none⟩ (.int .i64 0)).setCell ⟨P, 2, none⟩ wa).setCell ⟨P, 3, none⟩ wn) := by
  have hlow : Below (w.heap.size + 2) W ((((W.setCell ⟨P, 0, none⟩ (.int .i64 K)).setCell ⟨P, 1, none⟩ (.int .i64 0)).setCell ⟨P, 2, none⟩ wa).setCell ⟨P, 3, none⟩ wn) :=
    ((((Below.refl _ W).setCell (p := ⟨P, 0, none⟩) hP _).setCell (p := ⟨P, 1, none⟩) hP _).setCell (p := ⟨P, 2, none⟩) hP _).setCell (p := ⟨P, 3, none⟩) hP _
  have hbu4 := ((((hbu.setLow (a := ⟨P, 0, none⟩) hPB (.int .i64 K)).setLow (a := ⟨P, 1, none⟩) hPB (.int .i64 0)).setLow (a := ⟨P, 2, none⟩) hPB wa).setLow (a := ⟨P, 3, none⟩) hPB wn)
  have hsz : ((((W.setCell ⟨P, 0, none⟩ (.int .i64 K)).setCell ⟨P, 1, none⟩ (.int .i64 0)).setCell ⟨P, 2, none⟩ wa).setCell ⟨P, 3, none⟩ wn).heap.size = W.heap.size := by simp [World.setCell]
  have p0 := cells_set hbx 0 (.int .i64 K)
  have p1 := cells_set p0 1 (.int .i64 0)
  have p2 := cells_set p1 2 wa
  have p3 := cells_set p2 3 wn
  simp at p3
  have hr := hbu4.reads W.heap.size (by rw [hsz]; exact Nat.le_refl _) K 0
  exact ⟨hb.trans (hlow.mono (by omega)), ⟨kept_low ha.a hlow (by omega), kept_low ha.b hlow (by omega)⟩, hr, kept_of p3, hP, lt_of_block hbx, by rw [hsz]; exact Nat.le_refl _⟩

/-- The program's second answer in its box. -/
structure Hb (w : World) (P : Nat) (K : Int) (wa wn : Value) (A : List Bool) (N : List (List Int)) (W : World) : Prop where
  base : Below w.heap.size w W
  rel : RelAt W W.heap.size (.agg #[.int .i64 K, .int .i64 0, wa, wn]) ⟨K, 0, A, N⟩
  box : Kept W P (.int .i64 K) (.int .i64 0) wa wn
theorem hb_late {w : World} {K : Int} {wa wn : Value} {A : List Bool} {N : List (List Int)} {B : Nat} {W : World} (hb : Below w.heap.size w W) (hbu : Built W B wa wn A N) (t : TypeId) : Hb w W.heap.size K wa wn A N (W.alloc (.cells #[.int .i64 K, .int .i64 0, wa, wn] t)) :=
  ⟨base_box hb _, (hbu.below ((Below.refl _ _).alloc (Nat.le_refl _) _)).reads _ (Nat.le_refl _) K 0, Kept.new _ _ _ _ _ _⟩
theorem hb_early {w : World} {K : Int} {wa wn : Value} {A : List Bool} {N : List (List Int)} {B P : Nat} {W : World} {t : TypeId} (hb : Below w.heap.size w W) (hbu : Built W B wa wn A N) (hP : w.heap.size ≤ P) (hPB : P < B) (hbx : W.heap[P]? = some (.cells #[Value.int .i64 0, .int .i64 0, .slice none 0 0, .slice none 0 0] t (0, 0))) :
    Hb w P K wa wn A N ((((W.setCell ⟨P, 0, none⟩ (.int .i64 K)).setCell ⟨P, 1, none⟩ (.int .i64 0)).setCell ⟨P, 2, none⟩ wa).setCell ⟨P, 3, none⟩ wn) := by
  have hbu4 := ((((hbu.setLow (a := ⟨P, 0, none⟩) hPB (.int .i64 K)).setLow (a := ⟨P, 1, none⟩) hPB (.int .i64 0)).setLow (a := ⟨P, 2, none⟩) hPB wa).setLow (a := ⟨P, 3, none⟩) hPB wn)
  have p0 := cells_set hbx 0 (.int .i64 K)
  have p1 := cells_set p0 1 (.int .i64 0)
  have p2 := cells_set p1 2 wa
  have p3 := cells_set p2 3 wn
  simp at p3
  exact ⟨(((hb.setCell (p := ⟨P, 0, none⟩) hP _).setCell (p := ⟨P, 1, none⟩) hP _).setCell (p := ⟨P, 2, none⟩) hP _).setCell (p := ⟨P, 3, none⟩) hP _, hbu4.reads _ (Nat.le_refl _) K 0, kept_of p3⟩
theorem Ma.step {w : World} {r s : R} {va vn ua un : Value} {P U : Nat} {K : Int} {wa wn : Value} {A : List Bool} {N : List (List Int)} {W W' : World} (h : Ma w r s va vn ua un P U K wa wn A N W) (hb : Below W.heap.size W W') : Ma w r s va vn ua un P U K wa wn A N W' :=
  ⟨base_step h.base hb, ⟨h.ar.a.step hb, h.ar.b.step hb⟩, h.rel.below hb h.hU, h.box.step hb, h.hP, h.hPU, Nat.le_trans h.hU hb.size⟩
theorem Ma.low {w : World} {r s : R} {va vn ua un : Value} {P U : Nat} {K : Int} {wa wn : Value} {A : List Bool} {N : List (List Int)} {W W' : World} (h : Ma w r s va vn ua un P U K wa wn A N W) (hb : Below U W W') : Ma w r s va vn ua un P U K wa wn A N W' :=
  ⟨h.base.trans (hb.mono (by have := h.hP; have := h.hPU; omega)), ar_keeps _ _ _ _ _ _ _ _ _ h.ar (hb.mono (by have := h.hP; have := h.hPU; omega)), h.rel.below hb (Nat.le_refl _), kept_low h.box hb h.hPU, h.hP, h.hPU, Nat.le_trans h.hU hb.size⟩
theorem Ma.read {w : World} {r s : R} {va vn ua un : Value} {P U : Nat} {K : Int} {wa wn : Value} {A : List Bool} {N : List (List Int)} {W : World} (h : Ma w r s va vn ua un P U K wa wn A N W) : RelAt W W.heap.size (.agg #[.int .i64 K, .int .i64 0, wa, wn]) ⟨K, 0, A, N⟩ := h.rel.mono h.hU

/-- The law's state: the arguments' boxes and the model's answer, the program's answer. -/
structure St (w : World) (r s : R) (va vn ua un : Value) (P U : Nat) (K : Int) (wa wn : Value) (A : List Bool) (N : List (List Int)) (L : Nat) (ga gn : Value) (V : Nat → Value) (Q : Nat) (fb : Nat → Value) (f : Nat → Nat → Value) (W : World) : Prop where
  ma : Ma w r s va vn ua un P U K wa wn A N W
  relf : RelF W L ga gn A.length fb N.length V (lenF N) f
  gb : Kept W Q (.int .i64 K) (.int .i64 0) ga gn
  out : ¬ InRel ga A.length N.length V (lenF N) Q
  hUL : U ≤ L
  hLQ : L ≤ Q
section
variable {w : World} {r s : R} {va vn ua un : Value} {P U : Nat} {K : Int} {wa wn : Value} {A : List Bool} {N : List (List Int)} {L : Nat} {ga gn : Value} {V : Nat → Value} {Q : Nat} {fb : Nat → Value} {f : Nat → Nat → Value} {W W' : World}
theorem St.step (h : St w r s va vn ua un P U K wa wn A N L ga gn V Q fb f W) (hb : Below W.heap.size W W') : St w r s va vn ua un P U K wa wn A N L ga gn V Q fb f W' :=
  ⟨h.ma.step hb, h.relf.below hb, h.gb.step hb, h.out, h.hUL, h.hLQ⟩
theorem St.lL (h : St w r s va vn ua un P U K wa wn A N L ga gn V Q fb f W) : L ≤ W.heap.size := Nat.le_of_lt (Nat.lt_of_le_of_lt h.hLQ h.gb.lt)
/-- What lies between the two answers is marked. -/
theorem St.markX {S : Nat → Prop} (h : St w r s va vn ua un P U K wa wn A N L ga gn V Q fb f W) (ho : Only S W W') (hS : ∀ b, S b → U ≤ b ∧ b < L) : St w r s va vn ua un P U K wa wn A N L ga gn V Q fb f W' :=
  ⟨h.ma.low (ho.below (fun b hb => (hS b hb).1) h.ma.hU), relF_only h.relf ho (fun b hb => (hS b hb).2), Kept.only h.gb ho (fun e => by have := hS _ e; have := h.hLQ; omega), h.out, h.hUL, h.hLQ⟩
/-- The program's answer is marked. -/
theorem St.markG {fb' : Nat → Value} {f' : Nat → Nat → Value} (h : St w r s va vn ua un P U K wa wn A N L ga gn V Q fb f W) (ho : Only (InRel ga A.length N.length V (lenF N)) W W') (hr : RelF W' L ga gn A.length fb' N.length V (lenF N) f') : St w r s va vn ua un P U K wa wn A N L ga gn V Q fb' f' W' :=
  ⟨h.ma.low (ho.below (fun b hb => by have := inRel_ge h.relf hb; have := h.hUL; omega) h.ma.hU), hr, Kept.only h.gb ho h.out, h.out, h.hUL, h.hLQ⟩
/-- The same before anything is marked, with the program's arguments. -/
structure Ck (w : World) (r s : R) (va vn ua un : Value) (P U : Nat) (K : Int) (wa wn : Value) (A : List Bool) (N : List (List Int)) (L : Nat) (ga gn : Value) (V : Nat → Value) (Q : Nat) (M X M' X' : Nat) (W : World) : Prop where
  st : St w r s va vn ua un P U K wa wn A N L ga gn V Q (boolF A) (intF N) W
  built : Built W L ga gn A N
  c1 : Cp r M X W
  c2 : Cp s M' X' W
theorem Ck.step {M X M' X' : Nat} (h : Ck w r s va vn ua un P U K wa wn A N L ga gn V Q M X M' X' W) (hb : Below W.heap.size W W') : Ck w r s va vn ua un P U K wa wn A N L ga gn V Q M X M' X' W' :=
  ⟨h.st.step hb, h.built.below hb, h.c1.step hb, h.c2.step hb⟩
theorem Ck.drew {M X M' X' : Nat} (h : Ck w r s va vn ua un P U K wa wn A N L ga gn V Q M X M' X' W) : Ck w r s va vn ua un P U K wa wn A N L ga gn V Q M X M' X' W.drew := h.step ((Below.refl _ _).drew)
end

set_option maxRecDepth 100000 in
set_option maxHeartbeats 16000000 in
theorem law (w : World) (v : Value) (r : R) (hr : RelAt w w.heap.size v r) (u : Value) (s : R) (hs : RelAt w w.heap.size u s) (K C : Int) (A : List Bool) (N : List (List Int))
    (hS : ∀ W v u, RelAt W W.heap.size v r → RelAt W W.heap.size u s → Calls Tryd.prog 5 #[v, u] W fun e w' => ∃ va vn, e = .returned (.tuple #[.agg #[.int .i64 K, .int .i64 0, va, vn], .int .i64 C]) ∧ Built w' W.heap.size va vn A N ∧ Below W.heap.size W w')
    (hI : ∀ W v u, Below w.heap.size w W → RelAt W W.heap.size v r → RelAt W W.heap.size u s → Calls Tryd.prog 7 #[v, u] W fun e w' => ∃ va vn, e = .returned (.tuple #[.agg #[.int .i64 K, .int .i64 0, va, vn], .int .i64 C]) ∧ Built w' W.heap.size va vn A N ∧ Below W.heap.size W w') (hT : 1 + A.length + sumTo (lenF N) N.length ≤ 5000) (hNl : N.length ≤ 5000) :
    Calls Tryd.prog 3 #[v, u] w fun e w' => e = .returned (.bool true) ∧ Below w.heap.size w w' := by
  have HRW := Lib.hid (fun W (h : Below w.heap.size w W) => hr.below h (Nat.le_refl _))
  have HSW := Lib.hid (fun W (h : Below w.heap.size w W) => hs.below h (Nat.le_refl _))
  obtain ⟨va, vn, rfl, -, -⟩ := hr
  obtain ⟨ua, un, rfl, -, -⟩ := hs
  have B0 := Lib.hid (base_box (base_box (Below.refl _ w) (.cells #[.int .i64 r.tapes, .int .i64 r.start, va, vn] 25)) (.cells #[.int .i64 s.tapes, .int .i64 s.start, ua, un] 25))
  have A0 := Lib.hid (show Ar w r s va vn ua un ((w.alloc (.cells #[.int .i64 r.tapes, .int .i64 r.start, va, vn] 25)).alloc (.cells #[.int .i64 s.tapes, .int .i64 s.start, ua, un] 25)) from ⟨(Kept.new w (.int .i64 r.tapes) (.int .i64 r.start) va vn 25).box (.cells #[.int .i64 s.tapes, .int .i64 s.start, ua, un] 25), by
    have h1 := Kept.new (w.alloc (.cells #[.int .i64 r.tapes, .int .i64 r.start, va, vn] 25)) (.int .i64 s.tapes) (.int .i64 s.start) ua un 25
    rwa [size_alloc'] at h1⟩)
  go_enter Tryd.func3, Tryd.ntmps3
  go_wp2_with fail
  refine (szRelation _ r 1048576 _ w.heap.size (HRW.out _ B0.out) B0.out.size (by omega) (by omega)).mono ?_
  rintro e w1 ⟨rfl, hb⟩
  have B1 := Lib.hid (base_step B0.out hb)
  have A1 := Lib.hid (show Ar w r s va vn ua un w1 from ⟨A0.out.a.step hb, A0.out.b.step hb⟩)
  clear hb
  obtain ⟨⟨k0, k1, k2, k3⟩, -⟩ := A1.out.a
  obtain ⟨⟨l0, l1, l2, l3⟩, -⟩ := A1.out.b
  obtain ⟨z, hz⟩ : ∃ z, z = szRel 1048576 r := ⟨_, rfl⟩
  rw [← hz]
  have HZ := Lib.hid hz
  clear hz
  by_cases hneg : z < 0
  · go_wp2_with fail
    go_ret
    exact ⟨rfl, B1.out⟩
  · have SH := Lib.hid (short_of (r := r) (by rw [← HZ.out]; omega))
    have SS := Lib.hid (szRel_eq (r := r) (left := 1048576) (by rw [← HZ.out]; omega))
    rw [← HZ.out] at SS
    have HL := Lib.hid (show z ≤ 1048576 by have := SS.out; omega)
    go_wp2_with fail
    refine (szRelation _ s z _ w.heap.size (HSW.out _ B1.out) B1.out.size (by omega) HL.out).mono ?_
    rintro e w2 ⟨rfl, hb⟩
    have B2 := Lib.hid (base_step B1.out hb)
    have A2 := Lib.hid (show Ar w r s va vn ua un w2 from ⟨A1.out.a.step hb, A1.out.b.step hb⟩)
    clear hb k0 k1 k2 k3 l0 l1 l2 l3
    obtain ⟨⟨k0, k1, k2, k3⟩, -⟩ := A2.out.a
    obtain ⟨⟨l0, l1, l2, l3⟩, -⟩ := A2.out.b
    obtain ⟨y, hy⟩ : ∃ y, y = szRel z s := ⟨_, rfl⟩
    rw [← hy]
    have HY := Lib.hid hy
    clear hy
    by_cases hneg2 : y < 0
    · go_wp2_with fail
      go_ret
      exact ⟨rfl, B2.out⟩
    · have SH2 := Lib.hid (short_of' (r := s) HL.out (by rw [← HY.out]; omega))
      have SS2 := Lib.hid (szRel_eq (r := s) (left := z) (by rw [← HY.out]; omega))
      rw [← HY.out] at SS2
      have HSO := Lib.hid hS
      have HIO := Lib.hid hI
      have HTS := Lib.hid hT
      have HTN := Lib.hid hNl
      have hcc : (C != C) = false := by simp
      clear hS hI hT hNl
      have BD := Lib.hid (show Below w.heap.size w w2.drew from B2.out.drew)
      have AD := Lib.hid (show Ar w r s va vn ua un w2.drew from ⟨A2.out.a.drew, A2.out.b.drew⟩)
      have HSC := Lib.hid (show ∀ W, Ar w r s va vn ua un W → (fun W => (W.cell? ⟨w.heap.size, 0, none⟩ = some (.int .i64 r.tapes) ∧ W.cell? ⟨w.heap.size, 1, none⟩ = some (.int .i64 r.start) ∧ W.cell? ⟨w.heap.size, 2, none⟩ = some va ∧ W.cell? ⟨w.heap.size, 3, none⟩ = some vn) ∧ W.cell? ⟨w.heap.size + 1, 0, none⟩ = some (.int .i64 s.tapes) ∧ W.cell? ⟨w.heap.size + 1, 1, none⟩ = some (.int .i64 s.start) ∧ W.cell? ⟨w.heap.size + 1, 2, none⟩ = some ua ∧ W.cell? ⟨w.heap.size + 1, 3, none⟩ = some un) W from fun W h => ⟨⟨h.a.four.c0, h.a.four.c1, h.a.four.c2, h.a.four.c3⟩, h.b.four.c0, h.b.four.c1, h.b.four.c2, h.b.four.c3⟩)
      clear k0 k1 k2 k3 l0 l1 l2 l3
      go_upto_region 8 with fail
      go_cut [6, 7] (fun v6 v7 wx => ∃ (P U : Nat) (a4 : Option Addr) (n4 c4 : Nat) (b4 : Option Addr) (m4 d4 : Nat), v6 = .pointer (some ⟨P, 0, none⟩) ∧ v7 = .int .i64 C ∧ Ma w r s va vn ua un P U K (.slice a4 n4 c4) (.slice b4 m4 d4) A N wx)
      case first =>
        -- {fast
        refine wp_region_held_drew (S := (fun W => (W.cell? ⟨w.heap.size, 0, none⟩ = some (.int .i64 r.tapes) ∧ W.cell? ⟨w.heap.size, 1, none⟩ = some (.int .i64 r.start) ∧ W.cell? ⟨w.heap.size, 2, none⟩ = some va ∧ W.cell? ⟨w.heap.size, 3, none⟩ = some vn) ∧ W.cell? ⟨w.heap.size + 1, 0, none⟩ = some (.int .i64 s.tapes) ∧ W.cell? ⟨w.heap.size + 1, 1, none⟩ = some (.int .i64 s.start) ∧ W.cell? ⟨w.heap.size + 1, 2, none⟩ = some ua ∧ W.cell? ⟨w.heap.size + 1, 3, none⟩ = some un)) (by kernel_rfl) ?hS (fun hHeld => ?hR)
        case hS => exact HSC.out _ AD.out
        refine wpAnyH_take (i := 0) (v := ?v1) rfl (by kernel_rfl) (by kernel_rfl) (by kernel_rfl) (fun _ _ _ h => h) (Or.inl ⟨by kernel_rfl, ?y1⟩) (by assumption) ?r1
        case y1 => (intro W hSw; (try dsimp only at hSw); go_simp; try with_reducible rfl)
        (try dsimp only [Act.put, List.setIfInBounds_toArray, List.set_cons_zero, List.set_cons_succ])
        refine wpAnyH_take (i := 2) (v := ?v2) rfl (by kernel_rfl) (by kernel_rfl) (by kernel_rfl) (fun _ _ _ h => h) (Or.inl ⟨by kernel_rfl, ?y2⟩) (by assumption) ?r2
        case y2 => (intro W hSw; (try dsimp only at hSw); go_simp; try with_reducible rfl)
        (try dsimp only [Act.put, List.setIfInBounds_toArray, List.set_cons_zero, List.set_cons_succ])
        refine wpAnyH_ready (rs := [1, 8]) (by kernel_rfl) (by simp) ?_
        refine AllReadyH.cons rfl (fun KQ hK => ?_) (AllReadyH.cons rfl (fun KQ hK => ?_) AllReadyH.nil)
        · have HC1 := Lib.hid (copyOwn' (.agg #[.int .i64 r.tapes, .int .i64 r.start, va, vn]) r (w2.drew) w.heap.size (HRW.out _ BD.out) BD.out.size SH.out)
          go_simp
          refine HC1.out.mono ?_
          rintro e x1 ⟨M1, rfl, ho, hb, hM1⟩
          have B1 := Lib.hid (base_step BD.out hb)
          have A1 := Lib.hid (show Ar w r s va vn ua un x1 from ⟨AD.out.a.step hb, AD.out.b.step hb⟩)
          have O1 := Lib.hid ho
          clear ho hb HC1
          try dsimp only
          refine hK.out _ _ (HSC.out _ A1.out) (fun hHeld => ?_)
          clear hK KQ
          (try dsimp only [Act.put, List.setIfInBounds_toArray, List.set_cons_zero, List.set_cons_succ])
          refine wpAnyH_ready (rs := [3, 8]) (by kernel_rfl) (by simp) ?_
          refine AllReadyH.cons rfl (fun KQ hK => ?_) (AllReadyH.cons rfl (fun KQ hK => ?_) AllReadyH.nil)
          · have HC2 := Lib.hid (copyOwn' (.agg #[.int .i64 s.tapes, .int .i64 s.start, ua, un]) s (x1) w.heap.size (HSW.out _ B1.out) B1.out.size SH2.out)
            go_simp
            refine HC2.out.mono ?_
            rintro e x2 ⟨M2, rfl, ho, hb, hM2⟩
            have B2 := Lib.hid (base_step B1.out hb)
            have A2 := Lib.hid (show Ar w r s va vn ua un x2 from ⟨A1.out.a.step hb, A1.out.b.step hb⟩)
            have O2 := Lib.hid ho
            have P2 := Lib.hid (O1.out.step hb)
            clear ho hb HC2
            try dsimp only
            refine hK.out _ _ (HSC.out _ A2.out) (fun hHeld => ?_)
            clear hK KQ
            (try dsimp only [Act.put, List.setIfInBounds_toArray, List.set_cons_zero, List.set_cons_succ])
            refine wpAnyH_ready (rs := [4, 8]) (by kernel_rfl) (by simp) ?_
            refine AllReadyH.cons rfl (fun KQ hK => ?_) (AllReadyH.cons rfl (fun KQ hK => ?_) AllReadyH.nil)
            · have HC3 := Lib.hid (HSO.out (x2) _ _ P2.out.reads O2.out.reads)
              go_simp
              refine HC3.out.mono ?_
              rintro e x3 ⟨wa, wn, rfl, hbu, hb⟩
              have B3 := Lib.hid (base_step B2.out hb)
              have A3 := Lib.hid (show Ar w r s va vn ua un x3 from ⟨A2.out.a.step hb, A2.out.b.step hb⟩)
              have U3 := Lib.hid hbu
              obtain ⟨a4, n4, c4, rfl, -⟩ := hbu.acc.shape'
              obtain ⟨items4, -, hnx, -⟩ := hbu.rows
              obtain ⟨b4, m4, d4, rfl, -⟩ := hnx.shape'
              clear hbu hb hnx HC3
              try dsimp only
              refine hK.out _ _ (HSC.out _ A3.out) (fun hHeld => ?_)
              clear hK KQ
              (try dsimp only [Act.put, List.setIfInBounds_toArray, List.set_cons_zero, List.set_cons_succ])
              refine wpAnyH_take (i := 5) (v := ?v3) rfl (by kernel_rfl) (by kernel_rfl) (by kernel_rfl) (fun _ _ _ h => h) (Or.inl ⟨by kernel_rfl, ?y3⟩) (by assumption) ?r3
              case y3 => (intro W hSw; (try dsimp only at hSw); go_simp; try with_reducible rfl)
              (try dsimp only [Act.put, List.setIfInBounds_toArray, List.set_cons_zero, List.set_cons_succ])
              refine wpAnyH_take (i := 6) (v := ?v4) rfl (by kernel_rfl) (by kernel_rfl) (by kernel_rfl) (fun _ _ _ h => h) (Or.inl ⟨by kernel_rfl, ?y4⟩) (by assumption) ?r4
              case y4 => (intro W hSw; (try dsimp only at hSw); go_simp; try with_reducible rfl)
              (try dsimp only [Act.put, List.setIfInBounds_toArray, List.set_cons_zero, List.set_cons_succ])
              refine wpAnyH_take (i := 7) (v := ?v5) rfl (by kernel_rfl) (by kernel_rfl) (by kernel_rfl) (fun _ _ _ h => h) (Or.inl ⟨by kernel_rfl, ?y5⟩) (by assumption) ?r5
              case y5 => (intro W hSw; (try dsimp only at hSw); go_simp; try with_reducible rfl)
              (try dsimp only [Act.put, List.setIfInBounds_toArray, List.set_cons_zero, List.set_cons_succ])
              refine wpAnyH_ready (rs := [8]) (by kernel_rfl) (by simp) ?_
              refine AllReadyH.cons rfl (fun KQ hK => ?_) AllReadyH.nil
              · have B4 := Lib.hid (base_box B3.out (.cells #[Value.int .i64 0, .int .i64 0, .slice none 0 0, .slice none 0 0] 27))
                have A4 := Lib.hid (show Ar w r s va vn ua un ((x3).alloc (.cells #[Value.int .i64 0, .int .i64 0, .slice none 0 0, .slice none 0 0] 27)) from ⟨A3.out.a.box _, A3.out.b.box _⟩)
                have Z4 := Lib.hid (show ((x3).alloc (.cells #[Value.int .i64 0, .int .i64 0, .slice none 0 0, .slice none 0 0] 27)).heap[(x3).heap.size]? = some (.cells #[Value.int .i64 0, .int .i64 0, .slice none 0 0, .slice none 0 0] 27 (0, 0)) from heap_alloc_new (x3) (.cells #[Value.int .i64 0, .int .i64 0, .slice none 0 0, .slice none 0 0] 27))
                have HP4 := Lib.hid (show w.heap.size + 2 ≤ (x3).heap.size from A3.out.b.lt)
                have P4 := Lib.hid (P2.out.box (.cells #[Value.int .i64 0, .int .i64 0, .slice none 0 0, .slice none 0 0] 27))
                have Q4 := Lib.hid (O2.out.box (.cells #[Value.int .i64 0, .int .i64 0, .slice none 0 0, .slice none 0 0] 27))
                go_simp
                refine hK.out _ _ (HSC.out _ A4.out) (fun hHeld => ?_)
                clear hK KQ
                (try dsimp only [Act.put, List.setIfInBounds_toArray, List.set_cons_zero, List.set_cons_succ])
                refine wpAnyH_ready (rs := [9]) (by kernel_rfl) (by simp) ?_
                refine AllReadyH.cons rfl (fun KQ hK => ?_) AllReadyH.nil
                · have MA := Lib.hid (ma_late (K := K) B3.out A3.out U3.out 27)
                  go_simp
                  refine hK.out _ _ (HSC.out _ MA.out.ar) (fun hHeld => ?_)
                  clear hK KQ
                  (try dsimp only [Act.put, List.setIfInBounds_toArray, List.set_cons_zero, List.set_cons_succ])
                  refine wpAnyH_ready (rs := [10]) (by kernel_rfl) (by simp) ?_
                  refine AllReadyH.cons rfl (fun KQ hK => ?_) AllReadyH.nil
                  go_simp
                  refine hK.out _ _ (HSC.out _ MA.out.ar) (fun hHeld => ?_)
                  clear hK KQ
                  (try dsimp only [Act.put, List.setIfInBounds_toArray, List.set_cons_zero, List.set_cons_succ])
                  refine wpAnyH_done (by kernel_rfl) ?_ _
                  go_wp2_with fail
                  go_meet
                  exact ⟨_, _, a4, n4, c4, b4, m4, d4, rfl, rfl, MA.out⟩
            · have B6 := Lib.hid (base_box B2.out (.cells #[Value.int .i64 0, .int .i64 0, .slice none 0 0, .slice none 0 0] 27))
              have A6 := Lib.hid (show Ar w r s va vn ua un ((x2).alloc (.cells #[Value.int .i64 0, .int .i64 0, .slice none 0 0, .slice none 0 0] 27)) from ⟨A2.out.a.box _, A2.out.b.box _⟩)
              have Z6 := Lib.hid (show ((x2).alloc (.cells #[Value.int .i64 0, .int .i64 0, .slice none 0 0, .slice none 0 0] 27)).heap[(x2).heap.size]? = some (.cells #[Value.int .i64 0, .int .i64 0, .slice none 0 0, .slice none 0 0] 27 (0, 0)) from heap_alloc_new (x2) (.cells #[Value.int .i64 0, .int .i64 0, .slice none 0 0, .slice none 0 0] 27))
              have HP6 := Lib.hid (show w.heap.size + 2 ≤ (x2).heap.size from A2.out.b.lt)
              have P6 := Lib.hid (P2.out.box (.cells #[Value.int .i64 0, .int .i64 0, .slice none 0 0, .slice none 0 0] 27))
              have Q6 := Lib.hid (O2.out.box (.cells #[Value.int .i64 0, .int .i64 0, .slice none 0 0, .slice none 0 0] 27))
              go_simp
              refine hK.out _ _ (HSC.out _ A6.out) (fun hHeld => ?_)
              clear hK KQ
              (try dsimp only [Act.put, List.setIfInBounds_toArray, List.set_cons_zero, List.set_cons_succ])
              refine wpAnyH_ready (rs := [4]) (by kernel_rfl) (by simp) ?_
              refine AllReadyH.cons rfl (fun KQ hK => ?_) AllReadyH.nil
              · have HC7 := Lib.hid (HSO.out ((x2).alloc (.cells #[Value.int .i64 0, .int .i64 0, .slice none 0 0, .slice none 0 0] 27)) _ _ P6.out.reads Q6.out.reads)
                go_simp
                refine HC7.out.mono ?_
                rintro e x7 ⟨wa, wn, rfl, hbu, hb⟩
                have B7 := Lib.hid (base_step B6.out hb)
                have A7 := Lib.hid (show Ar w r s va vn ua un x7 from ⟨A6.out.a.step hb, A6.out.b.step hb⟩)
                have U7 := Lib.hid hbu
                obtain ⟨a4, n4, c4, rfl, -⟩ := hbu.acc.shape'
                obtain ⟨items4, -, hnx, -⟩ := hbu.rows
                obtain ⟨b4, m4, d4, rfl, -⟩ := hnx.shape'
                have Z7 := Lib.hid ((hb.block _ (lt_of_block Z6.out)).trans Z6.out)
                have L7 := Lib.hid (lt_of_block Z6.out)
                clear hbu hb hnx HC7
                try dsimp only
                refine hK.out _ _ (HSC.out _ A7.out) (fun hHeld => ?_)
                clear hK KQ
                (try dsimp only [Act.put, List.setIfInBounds_toArray, List.set_cons_zero, List.set_cons_succ])
                refine wpAnyH_take (i := 5) (v := ?v6) rfl (by kernel_rfl) (by kernel_rfl) (by kernel_rfl) (fun _ _ _ h => h) (Or.inl ⟨by kernel_rfl, ?y6⟩) (by assumption) ?r6
                case y6 => (intro W hSw; (try dsimp only at hSw); go_simp; try with_reducible rfl)
                (try dsimp only [Act.put, List.setIfInBounds_toArray, List.set_cons_zero, List.set_cons_succ])
                refine wpAnyH_take (i := 6) (v := ?v7) rfl (by kernel_rfl) (by kernel_rfl) (by kernel_rfl) (fun _ _ _ h => h) (Or.inl ⟨by kernel_rfl, ?y7⟩) (by assumption) ?r7
                case y7 => (intro W hSw; (try dsimp only at hSw); go_simp; try with_reducible rfl)
                (try dsimp only [Act.put, List.setIfInBounds_toArray, List.set_cons_zero, List.set_cons_succ])
                refine wpAnyH_take (i := 7) (v := ?v8) rfl (by kernel_rfl) (by kernel_rfl) (by kernel_rfl) (fun _ _ _ h => h) (Or.inl ⟨by kernel_rfl, ?y8⟩) (by assumption) ?r8
                case y8 => (intro W hSw; (try dsimp only at hSw); go_simp; try with_reducible rfl)
                (try dsimp only [Act.put, List.setIfInBounds_toArray, List.set_cons_zero, List.set_cons_succ])
                refine wpAnyH_ready (rs := [9]) (by kernel_rfl) (by simp) ?_
                refine AllReadyH.cons rfl (fun KQ hK => ?_) AllReadyH.nil
                · have MA := Lib.hid (ma_early (K := K) B7.out A7.out U7.out HP6.out L7.out Z7.out)
                  have r0 := cells_get Z7.out 0
                  have r1 := cells_get Z7.out 1
                  have r2 := cells_get Z7.out 2
                  have r3 := cells_get Z7.out 3
                  have f0 := cells_free Z7.out 0
                  have f1 := cells_free Z7.out 1
                  have f2 := cells_free Z7.out 2
                  have f3 := cells_free Z7.out 3
                  have hlS := lt_of_block Z7.out
                  simp at r0 r1 r2 r3
                  go_simp
                  refine hK.out _ _ (HSC.out _ MA.out.ar) (fun hHeld => ?_)
                  clear hK KQ
                  (try dsimp only [Act.put, List.setIfInBounds_toArray, List.set_cons_zero, List.set_cons_succ])
                  refine wpAnyH_ready (rs := [10]) (by kernel_rfl) (by simp) ?_
                  refine AllReadyH.cons rfl (fun KQ hK => ?_) AllReadyH.nil
                  go_simp
                  refine hK.out _ _ (HSC.out _ MA.out.ar) (fun hHeld => ?_)
                  clear hK KQ
                  (try dsimp only [Act.put, List.setIfInBounds_toArray, List.set_cons_zero, List.set_cons_succ])
                  refine wpAnyH_done (by kernel_rfl) ?_ _
                  go_wp2_with fail
                  go_meet
                  exact ⟨_, _, a4, n4, c4, b4, m4, d4, rfl, rfl, MA.out⟩
          · have B9 := Lib.hid (base_box B1.out (.cells #[Value.int .i64 0, .int .i64 0, .slice none 0 0, .slice none 0 0] 27))
            have A9 := Lib.hid (show Ar w r s va vn ua un ((x1).alloc (.cells #[Value.int .i64 0, .int .i64 0, .slice none 0 0, .slice none 0 0] 27)) from ⟨A1.out.a.box _, A1.out.b.box _⟩)
            have Z9 := Lib.hid (show ((x1).alloc (.cells #[Value.int .i64 0, .int .i64 0, .slice none 0 0, .slice none 0 0] 27)).heap[(x1).heap.size]? = some (.cells #[Value.int .i64 0, .int .i64 0, .slice none 0 0, .slice none 0 0] 27 (0, 0)) from heap_alloc_new (x1) (.cells #[Value.int .i64 0, .int .i64 0, .slice none 0 0, .slice none 0 0] 27))
            have HP9 := Lib.hid (show w.heap.size + 2 ≤ (x1).heap.size from A1.out.b.lt)
            have P9 := Lib.hid (O1.out.box (.cells #[Value.int .i64 0, .int .i64 0, .slice none 0 0, .slice none 0 0] 27))
            go_simp
            refine hK.out _ _ (HSC.out _ A9.out) (fun hHeld => ?_)
            clear hK KQ
            (try dsimp only [Act.put, List.setIfInBounds_toArray, List.set_cons_zero, List.set_cons_succ])
            refine wpAnyH_ready (rs := [3]) (by kernel_rfl) (by simp) ?_
            refine AllReadyH.cons rfl (fun KQ hK => ?_) AllReadyH.nil
            · have HC10 := Lib.hid (copyOwn' (.agg #[.int .i64 s.tapes, .int .i64 s.start, ua, un]) s ((x1).alloc (.cells #[Value.int .i64 0, .int .i64 0, .slice none 0 0, .slice none 0 0] 27)) w.heap.size (HSW.out _ B9.out) B9.out.size SH2.out)
              go_simp
              refine HC10.out.mono ?_
              rintro e x10 ⟨M10, rfl, ho, hb, hM10⟩
              have B10 := Lib.hid (base_step B9.out hb)
              have A10 := Lib.hid (show Ar w r s va vn ua un x10 from ⟨A9.out.a.step hb, A9.out.b.step hb⟩)
              have O10 := Lib.hid ho
              have P10 := Lib.hid (P9.out.step hb)
              have Z10 := Lib.hid ((hb.block _ (lt_of_block Z9.out)).trans Z9.out)
              clear ho hb HC10
              try dsimp only
              refine hK.out _ _ (HSC.out _ A10.out) (fun hHeld => ?_)
              clear hK KQ
              (try dsimp only [Act.put, List.setIfInBounds_toArray, List.set_cons_zero, List.set_cons_succ])
              refine wpAnyH_ready (rs := [4]) (by kernel_rfl) (by simp) ?_
              refine AllReadyH.cons rfl (fun KQ hK => ?_) AllReadyH.nil
              · have HC11 := Lib.hid (HSO.out (x10) _ _ P10.out.reads O10.out.reads)
                go_simp
                refine HC11.out.mono ?_
                rintro e x11 ⟨wa, wn, rfl, hbu, hb⟩
                have B11 := Lib.hid (base_step B10.out hb)
                have A11 := Lib.hid (show Ar w r s va vn ua un x11 from ⟨A10.out.a.step hb, A10.out.b.step hb⟩)
                have U11 := Lib.hid hbu
                obtain ⟨a4, n4, c4, rfl, -⟩ := hbu.acc.shape'
                obtain ⟨items4, -, hnx, -⟩ := hbu.rows
                obtain ⟨b4, m4, d4, rfl, -⟩ := hnx.shape'
                have Z11 := Lib.hid ((hb.block _ (lt_of_block Z10.out)).trans Z10.out)
                have L11 := Lib.hid (lt_of_block Z10.out)
                clear hbu hb hnx HC11
                try dsimp only
                refine hK.out _ _ (HSC.out _ A11.out) (fun hHeld => ?_)
                clear hK KQ
                (try dsimp only [Act.put, List.setIfInBounds_toArray, List.set_cons_zero, List.set_cons_succ])
                refine wpAnyH_take (i := 5) (v := ?v9) rfl (by kernel_rfl) (by kernel_rfl) (by kernel_rfl) (fun _ _ _ h => h) (Or.inl ⟨by kernel_rfl, ?y9⟩) (by assumption) ?r9
                case y9 => (intro W hSw; (try dsimp only at hSw); go_simp; try with_reducible rfl)
                (try dsimp only [Act.put, List.setIfInBounds_toArray, List.set_cons_zero, List.set_cons_succ])
                refine wpAnyH_take (i := 6) (v := ?v10) rfl (by kernel_rfl) (by kernel_rfl) (by kernel_rfl) (fun _ _ _ h => h) (Or.inl ⟨by kernel_rfl, ?y10⟩) (by assumption) ?r10
                case y10 => (intro W hSw; (try dsimp only at hSw); go_simp; try with_reducible rfl)
                (try dsimp only [Act.put, List.setIfInBounds_toArray, List.set_cons_zero, List.set_cons_succ])
                refine wpAnyH_take (i := 7) (v := ?v11) rfl (by kernel_rfl) (by kernel_rfl) (by kernel_rfl) (fun _ _ _ h => h) (Or.inl ⟨by kernel_rfl, ?y11⟩) (by assumption) ?r11
                case y11 => (intro W hSw; (try dsimp only at hSw); go_simp; try with_reducible rfl)
                (try dsimp only [Act.put, List.setIfInBounds_toArray, List.set_cons_zero, List.set_cons_succ])
                refine wpAnyH_ready (rs := [9]) (by kernel_rfl) (by simp) ?_
                refine AllReadyH.cons rfl (fun KQ hK => ?_) AllReadyH.nil
                · have MA := Lib.hid (ma_early (K := K) B11.out A11.out U11.out HP9.out L11.out Z11.out)
                  have r0 := cells_get Z11.out 0
                  have r1 := cells_get Z11.out 1
                  have r2 := cells_get Z11.out 2
                  have r3 := cells_get Z11.out 3
                  have f0 := cells_free Z11.out 0
                  have f1 := cells_free Z11.out 1
                  have f2 := cells_free Z11.out 2
                  have f3 := cells_free Z11.out 3
                  have hlS := lt_of_block Z11.out
                  simp at r0 r1 r2 r3
                  go_simp
                  refine hK.out _ _ (HSC.out _ MA.out.ar) (fun hHeld => ?_)
                  clear hK KQ
                  (try dsimp only [Act.put, List.setIfInBounds_toArray, List.set_cons_zero, List.set_cons_succ])
                  refine wpAnyH_ready (rs := [10]) (by kernel_rfl) (by simp) ?_
                  refine AllReadyH.cons rfl (fun KQ hK => ?_) AllReadyH.nil
                  go_simp
                  refine hK.out _ _ (HSC.out _ MA.out.ar) (fun hHeld => ?_)
                  clear hK KQ
                  (try dsimp only [Act.put, List.setIfInBounds_toArray, List.set_cons_zero, List.set_cons_succ])
                  refine wpAnyH_done (by kernel_rfl) ?_ _
                  go_wp2_with fail
                  go_meet
                  exact ⟨_, _, a4, n4, c4, b4, m4, d4, rfl, rfl, MA.out⟩
        · have B13 := Lib.hid (base_box BD.out (.cells #[Value.int .i64 0, .int .i64 0, .slice none 0 0, .slice none 0 0] 27))
          have A13 := Lib.hid (show Ar w r s va vn ua un ((w2.drew).alloc (.cells #[Value.int .i64 0, .int .i64 0, .slice none 0 0, .slice none 0 0] 27)) from ⟨AD.out.a.box _, AD.out.b.box _⟩)
          have Z13 := Lib.hid (show ((w2.drew).alloc (.cells #[Value.int .i64 0, .int .i64 0, .slice none 0 0, .slice none 0 0] 27)).heap[w2.heap.size]? = some (.cells #[Value.int .i64 0, .int .i64 0, .slice none 0 0, .slice none 0 0] 27 (0, 0)) from heap_alloc_new (w2.drew) (.cells #[Value.int .i64 0, .int .i64 0, .slice none 0 0, .slice none 0 0] 27))
          have HP13 := Lib.hid (show w.heap.size + 2 ≤ w2.heap.size from AD.out.b.lt)
          go_simp
          refine hK.out _ _ (HSC.out _ A13.out) (fun hHeld => ?_)
          clear hK KQ
          (try dsimp only [Act.put, List.setIfInBounds_toArray, List.set_cons_zero, List.set_cons_succ])
          refine wpAnyH_ready (rs := [1]) (by kernel_rfl) (by simp) ?_
          refine AllReadyH.cons rfl (fun KQ hK => ?_) AllReadyH.nil
          · have HC14 := Lib.hid (copyOwn' (.agg #[.int .i64 r.tapes, .int .i64 r.start, va, vn]) r ((w2.drew).alloc (.cells #[Value.int .i64 0, .int .i64 0, .slice none 0 0, .slice none 0 0] 27)) w.heap.size (HRW.out _ B13.out) B13.out.size SH.out)
            go_simp
            refine HC14.out.mono ?_
            rintro e x14 ⟨M14, rfl, ho, hb, hM14⟩
            have B14 := Lib.hid (base_step B13.out hb)
            have A14 := Lib.hid (show Ar w r s va vn ua un x14 from ⟨A13.out.a.step hb, A13.out.b.step hb⟩)
            have O14 := Lib.hid ho
            have Z14 := Lib.hid ((hb.block _ (lt_of_block Z13.out)).trans Z13.out)
            clear ho hb HC14
            try dsimp only
            refine hK.out _ _ (HSC.out _ A14.out) (fun hHeld => ?_)
            clear hK KQ
            (try dsimp only [Act.put, List.setIfInBounds_toArray, List.set_cons_zero, List.set_cons_succ])
            refine wpAnyH_ready (rs := [3]) (by kernel_rfl) (by simp) ?_
            refine AllReadyH.cons rfl (fun KQ hK => ?_) AllReadyH.nil
            · have HC15 := Lib.hid (copyOwn' (.agg #[.int .i64 s.tapes, .int .i64 s.start, ua, un]) s (x14) w.heap.size (HSW.out _ B14.out) B14.out.size SH2.out)
              go_simp
              refine HC15.out.mono ?_
              rintro e x15 ⟨M15, rfl, ho, hb, hM15⟩
              have B15 := Lib.hid (base_step B14.out hb)
              have A15 := Lib.hid (show Ar w r s va vn ua un x15 from ⟨A14.out.a.step hb, A14.out.b.step hb⟩)
              have O15 := Lib.hid ho
              have P15 := Lib.hid (O14.out.step hb)
              have Z15 := Lib.hid ((hb.block _ (lt_of_block Z14.out)).trans Z14.out)
              clear ho hb HC15
              try dsimp only
              refine hK.out _ _ (HSC.out _ A15.out) (fun hHeld => ?_)
              clear hK KQ
              (try dsimp only [Act.put, List.setIfInBounds_toArray, List.set_cons_zero, List.set_cons_succ])
              refine wpAnyH_ready (rs := [4]) (by kernel_rfl) (by simp) ?_
              refine AllReadyH.cons rfl (fun KQ hK => ?_) AllReadyH.nil
              · have HC16 := Lib.hid (HSO.out (x15) _ _ P15.out.reads O15.out.reads)
                go_simp
                refine HC16.out.mono ?_
                rintro e x16 ⟨wa, wn, rfl, hbu, hb⟩
                have B16 := Lib.hid (base_step B15.out hb)
                have A16 := Lib.hid (show Ar w r s va vn ua un x16 from ⟨A15.out.a.step hb, A15.out.b.step hb⟩)
                have U16 := Lib.hid hbu
                obtain ⟨a4, n4, c4, rfl, -⟩ := hbu.acc.shape'
                obtain ⟨items4, -, hnx, -⟩ := hbu.rows
                obtain ⟨b4, m4, d4, rfl, -⟩ := hnx.shape'
                have Z16 := Lib.hid ((hb.block _ (lt_of_block Z15.out)).trans Z15.out)
                have L16 := Lib.hid (lt_of_block Z15.out)
                clear hbu hb hnx HC16
                try dsimp only
                refine hK.out _ _ (HSC.out _ A16.out) (fun hHeld => ?_)
                clear hK KQ
                (try dsimp only [Act.put, List.setIfInBounds_toArray, List.set_cons_zero, List.set_cons_succ])
                refine wpAnyH_take (i := 5) (v := ?v12) rfl (by kernel_rfl) (by kernel_rfl) (by kernel_rfl) (fun _ _ _ h => h) (Or.inl ⟨by kernel_rfl, ?y12⟩) (by assumption) ?r12
                case y12 => (intro W hSw; (try dsimp only at hSw); go_simp; try with_reducible rfl)
                (try dsimp only [Act.put, List.setIfInBounds_toArray, List.set_cons_zero, List.set_cons_succ])
                refine wpAnyH_take (i := 6) (v := ?v13) rfl (by kernel_rfl) (by kernel_rfl) (by kernel_rfl) (fun _ _ _ h => h) (Or.inl ⟨by kernel_rfl, ?y13⟩) (by assumption) ?r13
                case y13 => (intro W hSw; (try dsimp only at hSw); go_simp; try with_reducible rfl)
                (try dsimp only [Act.put, List.setIfInBounds_toArray, List.set_cons_zero, List.set_cons_succ])
                refine wpAnyH_take (i := 7) (v := ?v14) rfl (by kernel_rfl) (by kernel_rfl) (by kernel_rfl) (fun _ _ _ h => h) (Or.inl ⟨by kernel_rfl, ?y14⟩) (by assumption) ?r14
                case y14 => (intro W hSw; (try dsimp only at hSw); go_simp; try with_reducible rfl)
                (try dsimp only [Act.put, List.setIfInBounds_toArray, List.set_cons_zero, List.set_cons_succ])
                refine wpAnyH_ready (rs := [9]) (by kernel_rfl) (by simp) ?_
                refine AllReadyH.cons rfl (fun KQ hK => ?_) AllReadyH.nil
                · have MA := Lib.hid (ma_early (K := K) B16.out A16.out U16.out HP13.out L16.out Z16.out)
                  have r0 := cells_get Z16.out 0
                  have r1 := cells_get Z16.out 1
                  have r2 := cells_get Z16.out 2
                  have r3 := cells_get Z16.out 3
                  have f0 := cells_free Z16.out 0
                  have f1 := cells_free Z16.out 1
                  have f2 := cells_free Z16.out 2
                  have f3 := cells_free Z16.out 3
                  have hlS := lt_of_block Z16.out
                  simp at r0 r1 r2 r3
                  go_simp
                  refine hK.out _ _ (HSC.out _ MA.out.ar) (fun hHeld => ?_)
                  clear hK KQ
                  (try dsimp only [Act.put, List.setIfInBounds_toArray, List.set_cons_zero, List.set_cons_succ])
                  refine wpAnyH_ready (rs := [10]) (by kernel_rfl) (by simp) ?_
                  refine AllReadyH.cons rfl (fun KQ hK => ?_) AllReadyH.nil
                  go_simp
                  refine hK.out _ _ (HSC.out _ MA.out.ar) (fun hHeld => ?_)
                  clear hK KQ
                  (try dsimp only [Act.put, List.setIfInBounds_toArray, List.set_cons_zero, List.set_cons_succ])
                  refine wpAnyH_done (by kernel_rfl) ?_ _
                  go_wp2_with fail
                  go_meet
                  exact ⟨_, _, a4, n4, c4, b4, m4, d4, rfl, rfl, MA.out⟩
        -- }fast
      case rest =>
        obtain ⟨P, U, a4, n4, c4, b4, m4, d4, rfl, rfl, hma⟩ := hcut
        have MA := Lib.hid hma
        obtain ⟨⟨k0, k1, k2, k3⟩, -⟩ := hma.ar.a
        clear hma B2 A2 BD AD HSC B0 A0 B1 A1
        go_wp2_with fail
        refine (copyOwn' _ r wc w.heap.size (HRW.out _ MA.out.base) MA.out.base.size SH.out).mono ?_
        rintro e w6 ⟨M, rfl, ho, hb, hM⟩
        have MA6 := MA.out.step hb
        obtain ⟨⟨l0, l1, l2, l3⟩, hll⟩ := MA6.ar.b
        have MB6 := Lib.hid (MA6.step ((Below.refl _ w6).alloc (Nat.le_refl _) (.cells #[.int .i64 r.tapes, .int .i64 r.start, .slice (some ⟨M, 0, none⟩) r.accept.length r.accept.length, .slice (some ⟨M + 1, 0, none⟩) r.next.length r.next.length] 27)))
        have C6 := Lib.hid (show Cp r M w6.heap.size (w6.alloc (.cells #[.int .i64 r.tapes, .int .i64 r.start, .slice (some ⟨M, 0, none⟩) r.accept.length r.accept.length, .slice (some ⟨M + 1, 0, none⟩) r.next.length r.next.length] 27)) from Cp.new ho 27)
        have HUM := Lib.hid (show U ≤ M from Nat.le_trans MA.out.hU hM)
        clear ho hb hM k0 k1 k2 k3 MA6
        go_wp2_with fail
        refine (copyOwn' _ s _ w.heap.size (HSW.out _ MB6.out.base) MB6.out.base.size SH2.out).mono ?_
        rintro e w7 ⟨M', rfl, ho, hb, hM⟩
        obtain ⟨X, hX⟩ : ∃ X, X = w6.heap.size := ⟨_, rfl⟩
        rw [size_alloc', ← hX] at hM
        rw [← hX] at C6
        have C7w := C6.out.step hb
        obtain ⟨⟨q0, q1, q2, q3⟩, hlq⟩ := C7w.xb
        have MA7 := Lib.hid ((MB6.out.step hb).step ((Below.refl _ w7).alloc (Nat.le_refl _) (.cells #[.int .i64 s.tapes, .int .i64 s.start, .slice (some ⟨M', 0, none⟩) s.accept.length s.accept.length, .slice (some ⟨M' + 1, 0, none⟩) s.next.length s.next.length] 27)))
        have C7 := Lib.hid (C7w.step ((Below.refl _ w7).alloc (Nat.le_refl _) (.cells #[.int .i64 s.tapes, .int .i64 s.start, .slice (some ⟨M', 0, none⟩) s.accept.length s.accept.length, .slice (some ⟨M' + 1, 0, none⟩) s.next.length s.next.length] 27)))
        have D7 := Lib.hid (show Cp s M' w7.heap.size (w7.alloc (.cells #[.int .i64 s.tapes, .int .i64 s.start, .slice (some ⟨M', 0, none⟩) s.accept.length s.accept.length, .slice (some ⟨M' + 1, 0, none⟩) s.next.length s.next.length] 27)) from Cp.new ho 27)
        have HXM := Lib.hid (show X < M' from hM)
        have HI7 := Lib.hid (HIO.out _ _ _ MA7.out.base C7.out.own.reads D7.out.own.reads)
        rw [← hX]
        clear ho hb hM l0 l1 l2 l3 hll C7w hX
        go_wp2_with fail
        refine HI7.out.mono ?_
        rintro e w8 ⟨ga, gn, rfl, hbu, hb⟩
        obtain ⟨X', hX⟩ : ∃ X', X' = w7.heap.size := ⟨_, rfl⟩
        rw [size_alloc', ← hX] at hbu
        rw [← hX] at D7
        obtain ⟨V, hV⟩ := built_relF hbu
        have HNS := Lib.hid (not_size hV)
        have HX8 := Lib.hid (show X' + 1 ≤ w8.heap.size by have := hb.size; rw [size_alloc', ← hX] at this; exact this)
        have CK8 := Lib.hid (show Ck w r s va vn ua un P U K (.slice a4 n4 c4) (.slice b4 m4 d4) A N (X' + 1) ga gn V w8.heap.size M X M' X' (w8.alloc (.cells #[.int .i64 K, .int .i64 0, ga, gn] 27)) from
          ⟨⟨(MA7.out.step hb).step ((Below.refl _ _).alloc (Nat.le_refl _) _), hV.below ((Below.refl _ _).alloc (Nat.le_refl _) _), Kept.new _ _ _ _ _ _, HNS.out,
            by have h1 := HUM.out; have h2 := C7.out.hX; have h3 := HXM.out; have h4 := D7.out.hX; omega, HX8.out⟩,
           hbu.below ((Below.refl _ _).alloc (Nat.le_refl _) _), (C7.out.step hb).step ((Below.refl _ _).alloc (Nat.le_refl _) _), (D7.out.step hb).step ((Below.refl _ _).alloc (Nat.le_refl _) _)⟩)
        have WB := MA7.out.step hb
        obtain ⟨⟨p0, p1, p2, p3⟩, hlp⟩ := WB.box
        obtain ⟨a8, n8, c8, rfl, -⟩ := hbu.acc.shape'
        obtain ⟨items8, -, hnx, -⟩ := hbu.rows
        obtain ⟨b8, m8, d8, rfl, -⟩ := hnx.shape'
        clear hb hbu hnx hV WB HI7 MB6 C6 C7 D7 MA7 MA HNS q0 q1 q2 q3 hlq
        go_wp2_with fail
        rw [← hX]
        clear hX
        refine (eqRelation _ _ ⟨K, 0, A, N⟩ ⟨K, 0, A, N⟩ _ _ (CK8.out.built.reads _ (Nat.le_refl _) K 0) CK8.out.st.ma.read (Nat.le_refl _)).mono ?_
        rw [sameRel_self]
        rintro e w10 ⟨rfl, hb⟩
        obtain ⟨Q, hQ⟩ : ∃ Q, Q = w8.heap.size := ⟨_, rfl⟩
        rw [← hQ] at CK8
        have CK10 := Lib.hid (CK8.out.step hb)
        clear hb p0 p1 p2 p3 hlp HX8 CK8
        obtain ⟨⟨q0, q1, q2, q3⟩, hlq⟩ := CK10.out.c1.xb
        obtain ⟨⟨k0, k1, k2, k3⟩, hlk⟩ := CK10.out.st.ma.ar.a
        rw [← hQ]
        clear hQ
        go_upto_region 14 with fail
        go_cut [58] (fun v58 wx => v58 = .bool false ∧ Ck w r s va vn ua un P U K (.slice a4 n4 c4) (.slice b4 m4 d4) A N (X' + 1) (.slice a8 n8 c8) (.slice b8 m8 d8) V Q M X M' X' wx)
        case first =>
          -- {fast
          go_region_with (first
            | (go_at_call 6; refine (copyOwn _ r _ w.heap.size (HRW.out _ CK10.out.drew.st.ma.base) CK10.out.drew.st.ma.base.size SH.out).mono ?_; rintro e w11 ⟨M11, rfl, ho, hb⟩; have CK11 := Lib.hid (CK10.out.drew.step hb); have O11 := Lib.hid ho; obtain ⟨⟨p0, p1, p2, p3⟩, -⟩ := CK11.out.c1.xb; clear hb ho)
            | (go_at_call 8; refine (eqRelation _ _ r r w11 w11.heap.size CK11.out.c1.own.reads O11.out.reads (Nat.le_refl _)).mono ?_; rw [sameRel_self]; rintro e w12 ⟨rfl, hb⟩; have CK12 := Lib.hid (CK11.out.step hb); clear hb p0 p1 p2 p3))
          all_goals
            go_wp2_with fail
            go_meet
            exact ⟨rfl, CK12.out⟩
          -- }fast
        case rest =>
          obtain ⟨rfl, hck⟩ := hcut
          have CK20 := Lib.hid hck
          clear q0 q1 q2 q3 hlq k0 k1 k2 k3 hlk CK10
          obtain ⟨⟨q0, q1, q2, q3⟩, hlq⟩ := hck.c2.xb
          obtain ⟨⟨l0, l1, l2, l3⟩, hll⟩ := hck.st.ma.ar.b
          clear hck
          go_upto_region 16 with fail
          go_cut [63] (fun v63 wx => v63 = .bool false ∧ Ck w r s va vn ua un P U K (.slice a4 n4 c4) (.slice b4 m4 d4) A N (X' + 1) (.slice a8 n8 c8) (.slice b8 m8 d8) V Q M X M' X' wx)
          case first =>
            -- {fast
            go_region_with (first
              | (go_at_call 6; refine (copyOwn _ s _ w.heap.size (HSW.out _ CK20.out.drew.st.ma.base) CK20.out.drew.st.ma.base.size SH2.out).mono ?_; rintro e w11 ⟨M11, rfl, ho, hb⟩; have CK11 := Lib.hid (CK20.out.drew.step hb); have O11 := Lib.hid ho; obtain ⟨⟨p0, p1, p2, p3⟩, -⟩ := CK11.out.c2.xb; clear hb ho)
              | (go_at_call 8; refine (eqRelation _ _ s s w11 w11.heap.size CK11.out.c2.own.reads O11.out.reads (Nat.le_refl _)).mono ?_; rw [sameRel_self]; rintro e w12 ⟨rfl, hb⟩; have CK12 := Lib.hid (CK11.out.step hb); clear hb p0 p1 p2 p3))
            all_goals
              go_wp2_with fail
              go_meet
              exact ⟨rfl, CK12.out⟩
            -- }fast
          case rest =>
            obtain ⟨rfl, hck⟩ := hcut
            have CK := Lib.hid hck
            clear q0 q1 q2 q3 hlq l0 l1 l2 l3 hll CK20
            obtain ⟨V1, hRF1, hin1⟩ := own_relF hck.c1.own
            obtain ⟨V2, hRF2, hin2⟩ := own_relF hck.c2.own
            have HR2 := Lib.hid hRF2
            have HIN1 := Lib.hid hin1
            have HIN2 := Lib.hid hin2
            have HX1 := Lib.hid hck.c1.hX
            have HX2 := Lib.hid hck.c2.hX
            obtain ⟨y1, hy1⟩ : ∃ y1, y1 = 1 + r.accept.length + sumTo (lenF r.next) r.next.length := ⟨_, rfl⟩
            have hy10 : y1 ≤ 1048577 := by have := SS.out; omega
            have HY1 := Lib.hid hy1
            have HM1 := Lib.hid (markRel r.tapes r.start _ _ _ _ _ V1 _ _ 1 M _ hRF1 (by have := hck.c1.own.top; omega) (by have := SS.out; omega) (by omega) (by have := SS.out; omega) (fun h => by have := SS.out; omega))
            rw [← hy1] at HM1
            obtain ⟨⟨q0, q1, q2, q3⟩, hlq⟩ := hck.c1.xb
            have HXB2 := Lib.hid hck.c2.xb
            have HTOP2 := Lib.hid (show M' + 2 + s.next.length ≤ wc.heap.size from hck.c2.own.top)
            clear hck hRF1 hRF2 hin1 hin2 hy1
            go_wp2_with fail
            refine HM1.out.mono ?_
            rintro e w13 ⟨rfl, -, ho⟩
            have S13 := Lib.hid (CK.out.st.markX ho (fun b hb => by have h1 := HIN1.out b hb; have h2 := HUM.out; have h3 := HX1.out; have h4 := HXM.out; have h5 := HX2.out; omega))
            have G13 := Lib.hid (built_only CK.out.built ho (fun b hb => by have h1 := HIN1.out b hb; have h3 := HX1.out; have h4 := HXM.out; have h5 := HX2.out; omega))
            have R13 := relF_only HR2.out ho (fun b hb => by have h1 := HIN1.out b hb; have h3 := HX1.out; have h4 := HXM.out; omega)
            have XB13 := Kept.only HXB2.out ho (fun e => by have h1 := HIN1.out _ e; have h3 := HX1.out; have h4 := HXM.out; have h5 := HX2.out; omega)
            obtain ⟨y2, hy2⟩ : ∃ y2, y2 = y1 + s.accept.length + sumTo (lenF s.next) s.next.length := ⟨_, rfl⟩
            have hy20 : y2 ≤ 3000000 := by have h1 := SS.out; have h2 := SS2.out; have h3 := HY1.out; omega
            have HM3 := Lib.hid (markRel s.tapes s.start _ _ _ _ _ V2 _ _ y1 M' _ R13 (Nat.le_trans (by have := HTOP2.out; omega) ho.size) (by have := SS2.out; have := HL.out; omega) hy10 (by have := SS2.out; have := HL.out; omega) (fun h => by have h1 := SS.out; have h2 := SS2.out; have h3 := HY1.out; omega))
            rw [← hy2] at HM3
            clear ho HM1 HR2 HIN1 R13 q0 q1 q2 q3 hlq hy2 HXB2 CK HTOP2
            obtain ⟨⟨q0, q1, q2, q3⟩, hlq⟩ := XB13
            go_wp2_with fail
            refine HM3.out.mono ?_
            rintro e w15 ⟨rfl, -, ho⟩
            have S15 := Lib.hid (S13.out.markX ho (fun b hb => by have h1 := HIN2.out b hb; have h2 := HUM.out; have h3 := HX1.out; have h4 := HXM.out; have h5 := HX2.out; omega))
            have G15 := Lib.hid (built_only G13.out ho (fun b hb => by have h1 := HIN2.out b hb; have h5 := HX2.out; omega))
            clear ho HM3 HIN2 S13 G13 q0 q1 q2 q3 hlq
            obtain ⟨⟨g0, g1, g2, g3⟩, hlg⟩ := S15.out.gb
            obtain ⟨⟨p0, p1, p2, p3⟩, hlp⟩ := S15.out.ma.box
            obtain ⟨p, hp⟩ : ∃ p, p = 1 + A.length + sumTo (lenF N) N.length := ⟨_, rfl⟩
            have hp0 : p ≤ 5000 := by rw [hp]; exact HTS.out
            have hpp : ((p : Int) != (p : Int)) = false := by simp
            have HPP := Lib.hid hp
            clear hp
            go_wp2_with fail
            refine (eqRelation _ _ ⟨K, 0, A, N⟩ ⟨K, 0, A, N⟩ _ _ (G15.out.reads _ (Nat.le_refl _) K 0) S15.out.ma.read (Nat.le_refl _)).mono ?_
            rw [sameRel_self]
            rintro e w16 ⟨rfl, hb⟩
            have S16 := Lib.hid (S15.out.step hb)
            have HM2 := Lib.hid (markRel K 0 _ _ _ _ _ V _ _ 1 (X' + 1) _ S16.out.relf S16.out.lL (by have := HTN.out; omega) (by omega) (by have := HTS.out; omega) (fun h => by have := HTS.out; omega))
            rw [← HPP.out] at HM2
            clear hb G15 S15 g0 g1 g2 g3 hlg p0 p1 p2 p3 hlp
            obtain ⟨⟨g0, g1, g2, g3⟩, hlg⟩ := S16.out.gb
            go_wp2_with fail
            refine HM2.out.mono ?_
            rintro e w17 ⟨rfl, hrf, ho⟩
            have S17 := Lib.hid (S16.out.markG ho hrf)
            have HH := Lib.hid (fun W (h : St w r s va vn ua un P U K (.slice a4 n4 c4) (.slice b4 m4 d4) A N (X' + 1) (.slice a8 n8 c8) (.slice b8 m8 d8) V Q (fun i => .bool (markB (1 + i))) (fun i c => .int .i64 ((1 + A.length + sumTo (lenF N) i + c : Nat) : Int)) W) =>
              heldRel K 0 _ _ A.length N.length V (lenF N) 1 (X' + 1) W h.relf (by have := HTN.out; omega) (by omega) (by have := HTS.out; omega) (fun h => by have := HTS.out; omega))
            rw [← HPP.out] at HH
            clear ho hrf HM2 S16 g0 g1 g2 g3 hlg
            obtain ⟨⟨g0, g1, g2, g3⟩, hlg⟩ := S17.out.gb
            go_wp2_with fail
            refine (HH.out _ S17.out).mono ?_
            rintro e w19 ⟨rfl, hb⟩
            have S19 := Lib.hid (S17.out.step hb)
            clear hb S17 g0 g1 g2 g3 hlg
            obtain ⟨⟨k0, k1, k2, k3⟩, hlk⟩ := S19.out.ma.ar.a
            obtain ⟨⟨l0, l1, l2, l3⟩, hll⟩ := S19.out.ma.ar.b
            have BD := Lib.hid (show Below w.heap.size w w19.drew from S19.out.ma.base.drew)
            have AD := Lib.hid (show Ar w r s va vn ua un w19.drew from ⟨S19.out.ma.ar.a.drew, S19.out.ma.ar.b.drew⟩)
            have DD := Lib.hid (show Below w19.heap.size w19 w19.drew from (Below.refl _ _).drew)
            have HSC := Lib.hid (show ∀ W, Ar w r s va vn ua un W → (fun W => (W.cell? ⟨w.heap.size, 0, none⟩ = some (.int .i64 r.tapes) ∧ W.cell? ⟨w.heap.size, 1, none⟩ = some (.int .i64 r.start) ∧ W.cell? ⟨w.heap.size, 2, none⟩ = some va ∧ W.cell? ⟨w.heap.size, 3, none⟩ = some vn) ∧ W.cell? ⟨w.heap.size + 1, 0, none⟩ = some (.int .i64 s.tapes) ∧ W.cell? ⟨w.heap.size + 1, 1, none⟩ = some (.int .i64 s.start) ∧ W.cell? ⟨w.heap.size + 1, 2, none⟩ = some ua ∧ W.cell? ⟨w.heap.size + 1, 3, none⟩ = some un) W from fun W h => ⟨⟨h.a.four.c0, h.a.four.c1, h.a.four.c2, h.a.four.c3⟩, h.b.four.c0, h.b.four.c1, h.b.four.c2, h.b.four.c3⟩)
            clear k0 k1 k2 k3 hlk l0 l1 l2 l3 hll
            go_upto_region 31 with fail
            go_cut [15, 16] (fun v15 v16 wx => ∃ (P' : Nat) (a5 : Option Addr) (n5 c5 : Nat) (b5 : Option Addr) (m5 d5 : Nat), v15 = .pointer (some ⟨P', 0, none⟩) ∧ v16 = .int .i64 C ∧ Hb w19 P' K (.slice a5 n5 c5) (.slice b5 m5 d5) A N wx)
            case first =>
              refine wp_region_held_drew (S := (fun W => (W.cell? ⟨w.heap.size, 0, none⟩ = some (.int .i64 r.tapes) ∧ W.cell? ⟨w.heap.size, 1, none⟩ = some (.int .i64 r.start) ∧ W.cell? ⟨w.heap.size, 2, none⟩ = some va ∧ W.cell? ⟨w.heap.size, 3, none⟩ = some vn) ∧ W.cell? ⟨w.heap.size + 1, 0, none⟩ = some (.int .i64 s.tapes) ∧ W.cell? ⟨w.heap.size + 1, 1, none⟩ = some (.int .i64 s.start) ∧ W.cell? ⟨w.heap.size + 1, 2, none⟩ = some ua ∧ W.cell? ⟨w.heap.size + 1, 3, none⟩ = some un)) (by kernel_rfl) ?hS2 (fun hHeld => ?hR2)
              case hS2 => exact HSC.out _ AD.out
              refine wpAnyH_take (i := 0) (v := ?v15) rfl (by kernel_rfl) (by kernel_rfl) (by kernel_rfl) (fun _ _ _ h => h) (Or.inl ⟨by kernel_rfl, ?y15⟩) (by assumption) ?r15
              case y15 => (intro W hSw; (try dsimp only at hSw); go_simp; try with_reducible rfl)
              (try dsimp only [Act.put, List.setIfInBounds_toArray, List.set_cons_zero, List.set_cons_succ])
              refine wpAnyH_take (i := 2) (v := ?v16) rfl (by kernel_rfl) (by kernel_rfl) (by kernel_rfl) (fun _ _ _ h => h) (Or.inl ⟨by kernel_rfl, ?y16⟩) (by assumption) ?r16
              case y16 => (intro W hSw; (try dsimp only at hSw); go_simp; try with_reducible rfl)
              (try dsimp only [Act.put, List.setIfInBounds_toArray, List.set_cons_zero, List.set_cons_succ])
              refine wpAnyH_ready (rs := [1, 8]) (by kernel_rfl) (by simp) ?_
              refine AllReadyH.cons rfl (fun KQ hK => ?_) (AllReadyH.cons rfl (fun KQ hK => ?_) AllReadyH.nil)
              · have HC18 := Lib.hid (copyOwn' (.agg #[.int .i64 r.tapes, .int .i64 r.start, va, vn]) r (w19.drew) w.heap.size (HRW.out _ BD.out) BD.out.size SH.out)
                go_simp
                refine HC18.out.mono ?_
                rintro e x18 ⟨M18, rfl, ho, hb, hM18⟩
                have B18 := Lib.hid (base_step BD.out hb)
                have A18 := Lib.hid (show Ar w r s va vn ua un x18 from ⟨AD.out.a.step hb, AD.out.b.step hb⟩)
                have D18 := Lib.hid (base_step DD.out hb)
                have O18 := Lib.hid ho
                clear ho hb HC18
                try dsimp only
                refine hK.out _ _ (HSC.out _ A18.out) (fun hHeld => ?_)
                clear hK KQ
                (try dsimp only [Act.put, List.setIfInBounds_toArray, List.set_cons_zero, List.set_cons_succ])
                refine wpAnyH_ready (rs := [3, 8]) (by kernel_rfl) (by simp) ?_
                refine AllReadyH.cons rfl (fun KQ hK => ?_) (AllReadyH.cons rfl (fun KQ hK => ?_) AllReadyH.nil)
                · have HC19 := Lib.hid (copyOwn' (.agg #[.int .i64 s.tapes, .int .i64 s.start, ua, un]) s (x18) w.heap.size (HSW.out _ B18.out) B18.out.size SH2.out)
                  go_simp
                  refine HC19.out.mono ?_
                  rintro e x19 ⟨M19, rfl, ho, hb, hM19⟩
                  have B19 := Lib.hid (base_step B18.out hb)
                  have A19 := Lib.hid (show Ar w r s va vn ua un x19 from ⟨A18.out.a.step hb, A18.out.b.step hb⟩)
                  have D19 := Lib.hid (base_step D18.out hb)
                  have O19 := Lib.hid ho
                  have P19 := Lib.hid (O18.out.step hb)
                  clear ho hb HC19
                  try dsimp only
                  refine hK.out _ _ (HSC.out _ A19.out) (fun hHeld => ?_)
                  clear hK KQ
                  (try dsimp only [Act.put, List.setIfInBounds_toArray, List.set_cons_zero, List.set_cons_succ])
                  refine wpAnyH_ready (rs := [4, 8]) (by kernel_rfl) (by simp) ?_
                  refine AllReadyH.cons rfl (fun KQ hK => ?_) (AllReadyH.cons rfl (fun KQ hK => ?_) AllReadyH.nil)
                  · have HC20 := Lib.hid (HIO.out (x19) _ _ B19.out P19.out.reads O19.out.reads)
                    go_simp
                    refine HC20.out.mono ?_
                    rintro e x20 ⟨wa, wn, rfl, hbu, hb⟩
                    have B20 := Lib.hid (base_step B19.out hb)
                    have A20 := Lib.hid (show Ar w r s va vn ua un x20 from ⟨A19.out.a.step hb, A19.out.b.step hb⟩)
                    have D20 := Lib.hid (base_step D19.out hb)
                    have U20 := Lib.hid hbu
                    obtain ⟨a5, n5, c5, rfl, -⟩ := hbu.acc.shape'
                    obtain ⟨items4, -, hnx, -⟩ := hbu.rows
                    obtain ⟨b5, m5, d5, rfl, -⟩ := hnx.shape'
                    clear hbu hb hnx HC20
                    try dsimp only
                    refine hK.out _ _ (HSC.out _ A20.out) (fun hHeld => ?_)
                    clear hK KQ
                    (try dsimp only [Act.put, List.setIfInBounds_toArray, List.set_cons_zero, List.set_cons_succ])
                    refine wpAnyH_take (i := 5) (v := ?v17) rfl (by kernel_rfl) (by kernel_rfl) (by kernel_rfl) (fun _ _ _ h => h) (Or.inl ⟨by kernel_rfl, ?y17⟩) (by assumption) ?r17
                    case y17 => (intro W hSw; (try dsimp only at hSw); go_simp; try with_reducible rfl)
                    (try dsimp only [Act.put, List.setIfInBounds_toArray, List.set_cons_zero, List.set_cons_succ])
                    refine wpAnyH_take (i := 6) (v := ?v18) rfl (by kernel_rfl) (by kernel_rfl) (by kernel_rfl) (fun _ _ _ h => h) (Or.inl ⟨by kernel_rfl, ?y18⟩) (by assumption) ?r18
                    case y18 => (intro W hSw; (try dsimp only at hSw); go_simp; try with_reducible rfl)
                    (try dsimp only [Act.put, List.setIfInBounds_toArray, List.set_cons_zero, List.set_cons_succ])
                    refine wpAnyH_take (i := 7) (v := ?v19) rfl (by kernel_rfl) (by kernel_rfl) (by kernel_rfl) (fun _ _ _ h => h) (Or.inl ⟨by kernel_rfl, ?y19⟩) (by assumption) ?r19
                    case y19 => (intro W hSw; (try dsimp only at hSw); go_simp; try with_reducible rfl)
                    (try dsimp only [Act.put, List.setIfInBounds_toArray, List.set_cons_zero, List.set_cons_succ])
                    refine wpAnyH_ready (rs := [8]) (by kernel_rfl) (by simp) ?_
                    refine AllReadyH.cons rfl (fun KQ hK => ?_) AllReadyH.nil
                    · have B21 := Lib.hid (base_box B20.out (.cells #[Value.int .i64 0, .int .i64 0, .slice none 0 0, .slice none 0 0] 27))
                      have A21 := Lib.hid (show Ar w r s va vn ua un ((x20).alloc (.cells #[Value.int .i64 0, .int .i64 0, .slice none 0 0, .slice none 0 0] 27)) from ⟨A20.out.a.box _, A20.out.b.box _⟩)
                      have Z21 := Lib.hid (show ((x20).alloc (.cells #[Value.int .i64 0, .int .i64 0, .slice none 0 0, .slice none 0 0] 27)).heap[(x20).heap.size]? = some (.cells #[Value.int .i64 0, .int .i64 0, .slice none 0 0, .slice none 0 0] 27 (0, 0)) from heap_alloc_new (x20) (.cells #[Value.int .i64 0, .int .i64 0, .slice none 0 0, .slice none 0 0] 27))
                      have HP21 := Lib.hid (show w19.heap.size ≤ (x20).heap.size from D20.out.size)
                      have D21 := Lib.hid (base_box D20.out (.cells #[Value.int .i64 0, .int .i64 0, .slice none 0 0, .slice none 0 0] 27))
                      have P21 := Lib.hid (P19.out.box (.cells #[Value.int .i64 0, .int .i64 0, .slice none 0 0, .slice none 0 0] 27))
                      have Q21 := Lib.hid (O19.out.box (.cells #[Value.int .i64 0, .int .i64 0, .slice none 0 0, .slice none 0 0] 27))
                      go_simp
                      refine hK.out _ _ (HSC.out _ A21.out) (fun hHeld => ?_)
                      clear hK KQ
                      (try dsimp only [Act.put, List.setIfInBounds_toArray, List.set_cons_zero, List.set_cons_succ])
                      refine wpAnyH_ready (rs := [9]) (by kernel_rfl) (by simp) ?_
                      refine AllReadyH.cons rfl (fun KQ hK => ?_) AllReadyH.nil
                      · have HB := Lib.hid (hb_late (K := K) D20.out U20.out 27)
                        go_simp
                        refine hK.out _ _ (HSC.out _ (S19.out.step HB.out.base).ma.ar) (fun hHeld => ?_)
                        clear hK KQ
                        (try dsimp only [Act.put, List.setIfInBounds_toArray, List.set_cons_zero, List.set_cons_succ])
                        refine wpAnyH_ready (rs := [10]) (by kernel_rfl) (by simp) ?_
                        refine AllReadyH.cons rfl (fun KQ hK => ?_) AllReadyH.nil
                        go_simp
                        refine hK.out _ _ (HSC.out _ (S19.out.step HB.out.base).ma.ar) (fun hHeld => ?_)
                        clear hK KQ
                        (try dsimp only [Act.put, List.setIfInBounds_toArray, List.set_cons_zero, List.set_cons_succ])
                        refine wpAnyH_done (by kernel_rfl) ?_ _
                        go_wp2_with fail
                        go_meet
                        exact ⟨_, a5, n5, c5, b5, m5, d5, rfl, rfl, HB.out⟩
                  · have B23 := Lib.hid (base_box B19.out (.cells #[Value.int .i64 0, .int .i64 0, .slice none 0 0, .slice none 0 0] 27))
                    have A23 := Lib.hid (show Ar w r s va vn ua un ((x19).alloc (.cells #[Value.int .i64 0, .int .i64 0, .slice none 0 0, .slice none 0 0] 27)) from ⟨A19.out.a.box _, A19.out.b.box _⟩)
                    have Z23 := Lib.hid (show ((x19).alloc (.cells #[Value.int .i64 0, .int .i64 0, .slice none 0 0, .slice none 0 0] 27)).heap[(x19).heap.size]? = some (.cells #[Value.int .i64 0, .int .i64 0, .slice none 0 0, .slice none 0 0] 27 (0, 0)) from heap_alloc_new (x19) (.cells #[Value.int .i64 0, .int .i64 0, .slice none 0 0, .slice none 0 0] 27))
                    have HP23 := Lib.hid (show w19.heap.size ≤ (x19).heap.size from D19.out.size)
                    have D23 := Lib.hid (base_box D19.out (.cells #[Value.int .i64 0, .int .i64 0, .slice none 0 0, .slice none 0 0] 27))
                    have P23 := Lib.hid (P19.out.box (.cells #[Value.int .i64 0, .int .i64 0, .slice none 0 0, .slice none 0 0] 27))
                    have Q23 := Lib.hid (O19.out.box (.cells #[Value.int .i64 0, .int .i64 0, .slice none 0 0, .slice none 0 0] 27))
                    go_simp
                    refine hK.out _ _ (HSC.out _ A23.out) (fun hHeld => ?_)
                    clear hK KQ
                    (try dsimp only [Act.put, List.setIfInBounds_toArray, List.set_cons_zero, List.set_cons_succ])
                    refine wpAnyH_ready (rs := [4]) (by kernel_rfl) (by simp) ?_
                    refine AllReadyH.cons rfl (fun KQ hK => ?_) AllReadyH.nil
                    · have HC24 := Lib.hid (HIO.out ((x19).alloc (.cells #[Value.int .i64 0, .int .i64 0, .slice none 0 0, .slice none 0 0] 27)) _ _ B23.out P23.out.reads Q23.out.reads)
                      go_simp
                      refine HC24.out.mono ?_
                      rintro e x24 ⟨wa, wn, rfl, hbu, hb⟩
                      have B24 := Lib.hid (base_step B23.out hb)
                      have A24 := Lib.hid (show Ar w r s va vn ua un x24 from ⟨A23.out.a.step hb, A23.out.b.step hb⟩)
                      have D24 := Lib.hid (base_step D23.out hb)
                      have U24 := Lib.hid hbu
                      obtain ⟨a5, n5, c5, rfl, -⟩ := hbu.acc.shape'
                      obtain ⟨items4, -, hnx, -⟩ := hbu.rows
                      obtain ⟨b5, m5, d5, rfl, -⟩ := hnx.shape'
                      have Z24 := Lib.hid ((hb.block _ (lt_of_block Z23.out)).trans Z23.out)
                      have L24 := Lib.hid (lt_of_block Z23.out)
                      clear hbu hb hnx HC24
                      try dsimp only
                      refine hK.out _ _ (HSC.out _ A24.out) (fun hHeld => ?_)
                      clear hK KQ
                      (try dsimp only [Act.put, List.setIfInBounds_toArray, List.set_cons_zero, List.set_cons_succ])
                      refine wpAnyH_take (i := 5) (v := ?v20) rfl (by kernel_rfl) (by kernel_rfl) (by kernel_rfl) (fun _ _ _ h => h) (Or.inl ⟨by kernel_rfl, ?y20⟩) (by assumption) ?r20
                      case y20 => (intro W hSw; (try dsimp only at hSw); go_simp; try with_reducible rfl)
                      (try dsimp only [Act.put, List.setIfInBounds_toArray, List.set_cons_zero, List.set_cons_succ])
                      refine wpAnyH_take (i := 6) (v := ?v21) rfl (by kernel_rfl) (by kernel_rfl) (by kernel_rfl) (fun _ _ _ h => h) (Or.inl ⟨by kernel_rfl, ?y21⟩) (by assumption) ?r21
                      case y21 => (intro W hSw; (try dsimp only at hSw); go_simp; try with_reducible rfl)
                      (try dsimp only [Act.put, List.setIfInBounds_toArray, List.set_cons_zero, List.set_cons_succ])
                      refine wpAnyH_take (i := 7) (v := ?v22) rfl (by kernel_rfl) (by kernel_rfl) (by kernel_rfl) (fun _ _ _ h => h) (Or.inl ⟨by kernel_rfl, ?y22⟩) (by assumption) ?r22
                      case y22 => (intro W hSw; (try dsimp only at hSw); go_simp; try with_reducible rfl)
                      (try dsimp only [Act.put, List.setIfInBounds_toArray, List.set_cons_zero, List.set_cons_succ])
                      refine wpAnyH_ready (rs := [9]) (by kernel_rfl) (by simp) ?_
                      refine AllReadyH.cons rfl (fun KQ hK => ?_) AllReadyH.nil
                      · have HB := Lib.hid (hb_early (K := K) D24.out U24.out HP23.out L24.out Z24.out)
                        have r0 := cells_get Z24.out 0
                        have r1 := cells_get Z24.out 1
                        have r2 := cells_get Z24.out 2
                        have r3 := cells_get Z24.out 3
                        have f0 := cells_free Z24.out 0
                        have f1 := cells_free Z24.out 1
                        have f2 := cells_free Z24.out 2
                        have f3 := cells_free Z24.out 3
                        have hlS := lt_of_block Z24.out
                        simp at r0 r1 r2 r3
                        go_simp
                        refine hK.out _ _ (HSC.out _ (S19.out.step HB.out.base).ma.ar) (fun hHeld => ?_)
                        clear hK KQ
                        (try dsimp only [Act.put, List.setIfInBounds_toArray, List.set_cons_zero, List.set_cons_succ])
                        refine wpAnyH_ready (rs := [10]) (by kernel_rfl) (by simp) ?_
                        refine AllReadyH.cons rfl (fun KQ hK => ?_) AllReadyH.nil
                        go_simp
                        refine hK.out _ _ (HSC.out _ (S19.out.step HB.out.base).ma.ar) (fun hHeld => ?_)
                        clear hK KQ
                        (try dsimp only [Act.put, List.setIfInBounds_toArray, List.set_cons_zero, List.set_cons_succ])
                        refine wpAnyH_done (by kernel_rfl) ?_ _
                        go_wp2_with fail
                        go_meet
                        exact ⟨_, a5, n5, c5, b5, m5, d5, rfl, rfl, HB.out⟩
                · have B26 := Lib.hid (base_box B18.out (.cells #[Value.int .i64 0, .int .i64 0, .slice none 0 0, .slice none 0 0] 27))
                  have A26 := Lib.hid (show Ar w r s va vn ua un ((x18).alloc (.cells #[Value.int .i64 0, .int .i64 0, .slice none 0 0, .slice none 0 0] 27)) from ⟨A18.out.a.box _, A18.out.b.box _⟩)
                  have Z26 := Lib.hid (show ((x18).alloc (.cells #[Value.int .i64 0, .int .i64 0, .slice none 0 0, .slice none 0 0] 27)).heap[(x18).heap.size]? = some (.cells #[Value.int .i64 0, .int .i64 0, .slice none 0 0, .slice none 0 0] 27 (0, 0)) from heap_alloc_new (x18) (.cells #[Value.int .i64 0, .int .i64 0, .slice none 0 0, .slice none 0 0] 27))
                  have HP26 := Lib.hid (show w19.heap.size ≤ (x18).heap.size from D18.out.size)
                  have D26 := Lib.hid (base_box D18.out (.cells #[Value.int .i64 0, .int .i64 0, .slice none 0 0, .slice none 0 0] 27))
                  have P26 := Lib.hid (O18.out.box (.cells #[Value.int .i64 0, .int .i64 0, .slice none 0 0, .slice none 0 0] 27))
                  go_simp
                  refine hK.out _ _ (HSC.out _ A26.out) (fun hHeld => ?_)
                  clear hK KQ
                  (try dsimp only [Act.put, List.setIfInBounds_toArray, List.set_cons_zero, List.set_cons_succ])
                  refine wpAnyH_ready (rs := [3]) (by kernel_rfl) (by simp) ?_
                  refine AllReadyH.cons rfl (fun KQ hK => ?_) AllReadyH.nil
                  · have HC27 := Lib.hid (copyOwn' (.agg #[.int .i64 s.tapes, .int .i64 s.start, ua, un]) s ((x18).alloc (.cells #[Value.int .i64 0, .int .i64 0, .slice none 0 0, .slice none 0 0] 27)) w.heap.size (HSW.out _ B26.out) B26.out.size SH2.out)
                    go_simp
                    refine HC27.out.mono ?_
                    rintro e x27 ⟨M27, rfl, ho, hb, hM27⟩
                    have B27 := Lib.hid (base_step B26.out hb)
                    have A27 := Lib.hid (show Ar w r s va vn ua un x27 from ⟨A26.out.a.step hb, A26.out.b.step hb⟩)
                    have D27 := Lib.hid (base_step D26.out hb)
                    have O27 := Lib.hid ho
                    have P27 := Lib.hid (P26.out.step hb)
                    have Z27 := Lib.hid ((hb.block _ (lt_of_block Z26.out)).trans Z26.out)
                    clear ho hb HC27
                    try dsimp only
                    refine hK.out _ _ (HSC.out _ A27.out) (fun hHeld => ?_)
                    clear hK KQ
                    (try dsimp only [Act.put, List.setIfInBounds_toArray, List.set_cons_zero, List.set_cons_succ])
                    refine wpAnyH_ready (rs := [4]) (by kernel_rfl) (by simp) ?_
                    refine AllReadyH.cons rfl (fun KQ hK => ?_) AllReadyH.nil
                    · have HC28 := Lib.hid (HIO.out (x27) _ _ B27.out P27.out.reads O27.out.reads)
                      go_simp
                      refine HC28.out.mono ?_
                      rintro e x28 ⟨wa, wn, rfl, hbu, hb⟩
                      have B28 := Lib.hid (base_step B27.out hb)
                      have A28 := Lib.hid (show Ar w r s va vn ua un x28 from ⟨A27.out.a.step hb, A27.out.b.step hb⟩)
                      have D28 := Lib.hid (base_step D27.out hb)
                      have U28 := Lib.hid hbu
                      obtain ⟨a5, n5, c5, rfl, -⟩ := hbu.acc.shape'
                      obtain ⟨items4, -, hnx, -⟩ := hbu.rows
                      obtain ⟨b5, m5, d5, rfl, -⟩ := hnx.shape'
                      have Z28 := Lib.hid ((hb.block _ (lt_of_block Z27.out)).trans Z27.out)
                      have L28 := Lib.hid (lt_of_block Z27.out)
                      clear hbu hb hnx HC28
                      try dsimp only
                      refine hK.out _ _ (HSC.out _ A28.out) (fun hHeld => ?_)
                      clear hK KQ
                      (try dsimp only [Act.put, List.setIfInBounds_toArray, List.set_cons_zero, List.set_cons_succ])
                      refine wpAnyH_take (i := 5) (v := ?v23) rfl (by kernel_rfl) (by kernel_rfl) (by kernel_rfl) (fun _ _ _ h => h) (Or.inl ⟨by kernel_rfl, ?y23⟩) (by assumption) ?r23
                      case y23 => (intro W hSw; (try dsimp only at hSw); go_simp; try with_reducible rfl)
                      (try dsimp only [Act.put, List.setIfInBounds_toArray, List.set_cons_zero, List.set_cons_succ])
                      refine wpAnyH_take (i := 6) (v := ?v24) rfl (by kernel_rfl) (by kernel_rfl) (by kernel_rfl) (fun _ _ _ h => h) (Or.inl ⟨by kernel_rfl, ?y24⟩) (by assumption) ?r24
                      case y24 => (intro W hSw; (try dsimp only at hSw); go_simp; try with_reducible rfl)
                      (try dsimp only [Act.put, List.setIfInBounds_toArray, List.set_cons_zero, List.set_cons_succ])
                      refine wpAnyH_take (i := 7) (v := ?v25) rfl (by kernel_rfl) (by kernel_rfl) (by kernel_rfl) (fun _ _ _ h => h) (Or.inl ⟨by kernel_rfl, ?y25⟩) (by assumption) ?r25
                      case y25 => (intro W hSw; (try dsimp only at hSw); go_simp; try with_reducible rfl)
                      (try dsimp only [Act.put, List.setIfInBounds_toArray, List.set_cons_zero, List.set_cons_succ])
                      refine wpAnyH_ready (rs := [9]) (by kernel_rfl) (by simp) ?_
                      refine AllReadyH.cons rfl (fun KQ hK => ?_) AllReadyH.nil
                      · have HB := Lib.hid (hb_early (K := K) D28.out U28.out HP26.out L28.out Z28.out)
                        have r0 := cells_get Z28.out 0
                        have r1 := cells_get Z28.out 1
                        have r2 := cells_get Z28.out 2
                        have r3 := cells_get Z28.out 3
                        have f0 := cells_free Z28.out 0
                        have f1 := cells_free Z28.out 1
                        have f2 := cells_free Z28.out 2
                        have f3 := cells_free Z28.out 3
                        have hlS := lt_of_block Z28.out
                        simp at r0 r1 r2 r3
                        go_simp
                        refine hK.out _ _ (HSC.out _ (S19.out.step HB.out.base).ma.ar) (fun hHeld => ?_)
                        clear hK KQ
                        (try dsimp only [Act.put, List.setIfInBounds_toArray, List.set_cons_zero, List.set_cons_succ])
                        refine wpAnyH_ready (rs := [10]) (by kernel_rfl) (by simp) ?_
                        refine AllReadyH.cons rfl (fun KQ hK => ?_) AllReadyH.nil
                        go_simp
                        refine hK.out _ _ (HSC.out _ (S19.out.step HB.out.base).ma.ar) (fun hHeld => ?_)
                        clear hK KQ
                        (try dsimp only [Act.put, List.setIfInBounds_toArray, List.set_cons_zero, List.set_cons_succ])
                        refine wpAnyH_done (by kernel_rfl) ?_ _
                        go_wp2_with fail
                        go_meet
                        exact ⟨_, a5, n5, c5, b5, m5, d5, rfl, rfl, HB.out⟩
              · have B30 := Lib.hid (base_box BD.out (.cells #[Value.int .i64 0, .int .i64 0, .slice none 0 0, .slice none 0 0] 27))
                have A30 := Lib.hid (show Ar w r s va vn ua un ((w19.drew).alloc (.cells #[Value.int .i64 0, .int .i64 0, .slice none 0 0, .slice none 0 0] 27)) from ⟨AD.out.a.box _, AD.out.b.box _⟩)
                have Z30 := Lib.hid (show ((w19.drew).alloc (.cells #[Value.int .i64 0, .int .i64 0, .slice none 0 0, .slice none 0 0] 27)).heap[w19.heap.size]? = some (.cells #[Value.int .i64 0, .int .i64 0, .slice none 0 0, .slice none 0 0] 27 (0, 0)) from heap_alloc_new (w19.drew) (.cells #[Value.int .i64 0, .int .i64 0, .slice none 0 0, .slice none 0 0] 27))
                have HP30 := Lib.hid (show w19.heap.size ≤ w19.heap.size from DD.out.size)
                have D30 := Lib.hid (base_box DD.out (.cells #[Value.int .i64 0, .int .i64 0, .slice none 0 0, .slice none 0 0] 27))
                go_simp
                refine hK.out _ _ (HSC.out _ A30.out) (fun hHeld => ?_)
                clear hK KQ
                (try dsimp only [Act.put, List.setIfInBounds_toArray, List.set_cons_zero, List.set_cons_succ])
                refine wpAnyH_ready (rs := [1]) (by kernel_rfl) (by simp) ?_
                refine AllReadyH.cons rfl (fun KQ hK => ?_) AllReadyH.nil
                · have HC31 := Lib.hid (copyOwn' (.agg #[.int .i64 r.tapes, .int .i64 r.start, va, vn]) r ((w19.drew).alloc (.cells #[Value.int .i64 0, .int .i64 0, .slice none 0 0, .slice none 0 0] 27)) w.heap.size (HRW.out _ B30.out) B30.out.size SH.out)
                  go_simp
                  refine HC31.out.mono ?_
                  rintro e x31 ⟨M31, rfl, ho, hb, hM31⟩
                  have B31 := Lib.hid (base_step B30.out hb)
                  have A31 := Lib.hid (show Ar w r s va vn ua un x31 from ⟨A30.out.a.step hb, A30.out.b.step hb⟩)
                  have D31 := Lib.hid (base_step D30.out hb)
                  have O31 := Lib.hid ho
                  have Z31 := Lib.hid ((hb.block _ (lt_of_block Z30.out)).trans Z30.out)
                  clear ho hb HC31
                  try dsimp only
                  refine hK.out _ _ (HSC.out _ A31.out) (fun hHeld => ?_)
                  clear hK KQ
                  (try dsimp only [Act.put, List.setIfInBounds_toArray, List.set_cons_zero, List.set_cons_succ])
                  refine wpAnyH_ready (rs := [3]) (by kernel_rfl) (by simp) ?_
                  refine AllReadyH.cons rfl (fun KQ hK => ?_) AllReadyH.nil
                  · have HC32 := Lib.hid (copyOwn' (.agg #[.int .i64 s.tapes, .int .i64 s.start, ua, un]) s (x31) w.heap.size (HSW.out _ B31.out) B31.out.size SH2.out)
                    go_simp
                    refine HC32.out.mono ?_
                    rintro e x32 ⟨M32, rfl, ho, hb, hM32⟩
                    have B32 := Lib.hid (base_step B31.out hb)
                    have A32 := Lib.hid (show Ar w r s va vn ua un x32 from ⟨A31.out.a.step hb, A31.out.b.step hb⟩)
                    have D32 := Lib.hid (base_step D31.out hb)
                    have O32 := Lib.hid ho
                    have P32 := Lib.hid (O31.out.step hb)
                    have Z32 := Lib.hid ((hb.block _ (lt_of_block Z31.out)).trans Z31.out)
                    clear ho hb HC32
                    try dsimp only
                    refine hK.out _ _ (HSC.out _ A32.out) (fun hHeld => ?_)
                    clear hK KQ
                    (try dsimp only [Act.put, List.setIfInBounds_toArray, List.set_cons_zero, List.set_cons_succ])
                    refine wpAnyH_ready (rs := [4]) (by kernel_rfl) (by simp) ?_
                    refine AllReadyH.cons rfl (fun KQ hK => ?_) AllReadyH.nil
                    · have HC33 := Lib.hid (HIO.out (x32) _ _ B32.out P32.out.reads O32.out.reads)
                      go_simp
                      refine HC33.out.mono ?_
                      rintro e x33 ⟨wa, wn, rfl, hbu, hb⟩
                      have B33 := Lib.hid (base_step B32.out hb)
                      have A33 := Lib.hid (show Ar w r s va vn ua un x33 from ⟨A32.out.a.step hb, A32.out.b.step hb⟩)
                      have D33 := Lib.hid (base_step D32.out hb)
                      have U33 := Lib.hid hbu
                      obtain ⟨a5, n5, c5, rfl, -⟩ := hbu.acc.shape'
                      obtain ⟨items4, -, hnx, -⟩ := hbu.rows
                      obtain ⟨b5, m5, d5, rfl, -⟩ := hnx.shape'
                      have Z33 := Lib.hid ((hb.block _ (lt_of_block Z32.out)).trans Z32.out)
                      have L33 := Lib.hid (lt_of_block Z32.out)
                      clear hbu hb hnx HC33
                      try dsimp only
                      refine hK.out _ _ (HSC.out _ A33.out) (fun hHeld => ?_)
                      clear hK KQ
                      (try dsimp only [Act.put, List.setIfInBounds_toArray, List.set_cons_zero, List.set_cons_succ])
                      refine wpAnyH_take (i := 5) (v := ?v26) rfl (by kernel_rfl) (by kernel_rfl) (by kernel_rfl) (fun _ _ _ h => h) (Or.inl ⟨by kernel_rfl, ?y26⟩) (by assumption) ?r26
                      case y26 => (intro W hSw; (try dsimp only at hSw); go_simp; try with_reducible rfl)
                      (try dsimp only [Act.put, List.setIfInBounds_toArray, List.set_cons_zero, List.set_cons_succ])
                      refine wpAnyH_take (i := 6) (v := ?v27) rfl (by kernel_rfl) (by kernel_rfl) (by kernel_rfl) (fun _ _ _ h => h) (Or.inl ⟨by kernel_rfl, ?y27⟩) (by assumption) ?r27
                      case y27 => (intro W hSw; (try dsimp only at hSw); go_simp; try with_reducible rfl)
                      (try dsimp only [Act.put, List.setIfInBounds_toArray, List.set_cons_zero, List.set_cons_succ])
                      refine wpAnyH_take (i := 7) (v := ?v28) rfl (by kernel_rfl) (by kernel_rfl) (by kernel_rfl) (fun _ _ _ h => h) (Or.inl ⟨by kernel_rfl, ?y28⟩) (by assumption) ?r28
                      case y28 => (intro W hSw; (try dsimp only at hSw); go_simp; try with_reducible rfl)
                      (try dsimp only [Act.put, List.setIfInBounds_toArray, List.set_cons_zero, List.set_cons_succ])
                      refine wpAnyH_ready (rs := [9]) (by kernel_rfl) (by simp) ?_
                      refine AllReadyH.cons rfl (fun KQ hK => ?_) AllReadyH.nil
                      · have HB := Lib.hid (hb_early (K := K) D33.out U33.out HP30.out L33.out Z33.out)
                        have r0 := cells_get Z33.out 0
                        have r1 := cells_get Z33.out 1
                        have r2 := cells_get Z33.out 2
                        have r3 := cells_get Z33.out 3
                        have f0 := cells_free Z33.out 0
                        have f1 := cells_free Z33.out 1
                        have f2 := cells_free Z33.out 2
                        have f3 := cells_free Z33.out 3
                        have hlS := lt_of_block Z33.out
                        simp at r0 r1 r2 r3
                        go_simp
                        refine hK.out _ _ (HSC.out _ (S19.out.step HB.out.base).ma.ar) (fun hHeld => ?_)
                        clear hK KQ
                        (try dsimp only [Act.put, List.setIfInBounds_toArray, List.set_cons_zero, List.set_cons_succ])
                        refine wpAnyH_ready (rs := [10]) (by kernel_rfl) (by simp) ?_
                        refine AllReadyH.cons rfl (fun KQ hK => ?_) AllReadyH.nil
                        go_simp
                        refine hK.out _ _ (HSC.out _ (S19.out.step HB.out.base).ma.ar) (fun hHeld => ?_)
                        clear hK KQ
                        (try dsimp only [Act.put, List.setIfInBounds_toArray, List.set_cons_zero, List.set_cons_succ])
                        refine wpAnyH_done (by kernel_rfl) ?_ _
                        go_wp2_with fail
                        go_meet
                        exact ⟨_, a5, n5, c5, b5, m5, d5, rfl, rfl, HB.out⟩
            case rest =>
              obtain ⟨P', a5, n5, c5, b5, m5, d5, rfl, rfl, hhb⟩ := hcut
              have HB := Lib.hid hhb
              have S27 := Lib.hid (S19.out.step hhb.base)
              obtain ⟨⟨q0, q1, q2, q3⟩, hlq⟩ := hhb.box
              obtain ⟨⟨p0, p1, p2, p3⟩, hlp⟩ := S27.out.ma.box
              clear hhb S19 BD AD DD HSC
              go_wp2_with fail
              refine (eqRelation _ _ ⟨K, 0, A, N⟩ ⟨K, 0, A, N⟩ _ _ HB.out.rel S27.out.ma.read (Nat.le_refl _)).mono ?_
              rw [sameRel_self]
              rintro e w28 ⟨rfl, hb⟩
              have S28 := Lib.hid (S27.out.step hb)
              clear hb HB S27 q0 q1 q2 q3 hlq p0 p1 p2 p3 hlp
              obtain ⟨⟨g0, g1, g2, g3⟩, hlg⟩ := S28.out.gb
              go_wp2_with fail
              refine (HH.out _ S28.out).mono ?_
              rintro e w29 ⟨rfl, hb⟩
              have B29 := Lib.hid (base_step S28.out.ma.base hb)
              go_wp2_with fail
              go_ret
              exact ⟨rfl, B29.out⟩
theorem none_sum : 1 + ([] : List Bool).length + sumTo (lenF []) ([] : List (List Int)).length ≤ 5000 := by decide
theorem two_few {t : Bool → Bool → Bool} {r s : R} (h : TwoImpl.alikeC r s = 0) (hb : JoinI.joinB t (ToL.toL r) (ToL.toL s) = true) : (JoinI.joinL t (ToL.toL r) (ToL.toL s)).Ok ∧ (TidyRight.tidyAcc (JoinI.joinL t (ToL.toL r) (ToL.toL s))).length ≤ 150 := by
  obtain ⟨h1, h2, h3⟩ := TwoImpl.alike_of h
  refine ⟨PairMath.pairL_ok t (PairMath.tidL_ok (SpecTidyRel.okL h1).1.2) (PairMath.tidL_ok (SpecTidyRel.okL h2).1.2) (show r.tapes.toNat = s.tapes.toNat by rw [h3]), ?_⟩
  unfold JoinI.joinB at hb
  rw [Bool.and_eq_true] at hb
  exact of_decide_eq_true hb.2
theorem two_sum (t : Bool → Bool → Bool) (r s : R) : 1 + (TwoImpl.twoA t r s).length + sumTo (lenF (TwoImpl.twoN t r s)) (TwoImpl.twoN t r s).length ≤ 5000 := by
  unfold TwoImpl.twoA TwoImpl.twoN
  by_cases h : TwoImpl.alikeC r s = 0
  · rw [if_pos h, if_pos h]
    unfold JoinI.joinA JoinI.joinN
    cases hb : JoinI.joinB t (ToL.toL r) (ToL.toL s) with
    | false => exact none_sum
    | true => exact ResKit.tidyL_sum (two_few h hb).1 (two_few h hb).2
  · rw [if_neg h, if_neg h]; exact none_sum
theorem two_len (t : Bool → Bool → Bool) (r s : R) : (TwoImpl.twoN t r s).length ≤ 5000 := by
  unfold TwoImpl.twoN
  by_cases h : TwoImpl.alikeC r s = 0
  · rw [if_pos h]
    unfold JoinI.joinN
    cases hb : JoinI.joinB t (ToL.toL r) (ToL.toL s) with
    | false => exact Nat.zero_le _
    | true =>
      have h1 := (two_few h hb).2
      have h2 := ResKit.tidyNext_len (JoinI.joinL t (ToL.toL r) (ToL.toL s))
      show (TidyRight.tidyNext _).length ≤ 5000
      omega
  · rw [if_neg h]; exact Nat.zero_le _
theorem prod_few {r s : R} (h : ProdFn.prodC r s = 0) (hq : JoinI.joinB ProdI.and2 (ProdFn.prodL r s) (ProdFn.prodM r s) = true) : (JoinI.joinL ProdI.and2 (ProdFn.prodL r s) (ProdFn.prodM r s)).Ok ∧ (TidyRight.tidyAcc (JoinI.joinL ProdI.and2 (ProdFn.prodL r s) (ProdFn.prodM r s))).length ≤ 150 := by
  obtain ⟨o1, o2, o3⟩ := ProdFn.prod_of h
  have e1 := SpecTidyRel.okL o1
  have e2 := SpecTidyRel.okL o2
  have g1 := ProdMath.grow_ok e1.1.2 true (ToL.toL s).k o3
  have g2 := ProdMath.grow_ok e2.1.2 false (ToL.toL r).k (by omega)
  have k1 := ProdMath.grow_k true (ToL.toL r) (ToL.toL s).k
  have k2 := ProdMath.grow_k false (ToL.toL s) (ToL.toL r).k
  refine ⟨PairMath.pairL_ok _ (PairMath.tidL_ok g1) (PairMath.tidL_ok g2) (show (ProdMath.grow true (ToL.toL r) (ToL.toL s).k).k = (ProdMath.grow false (ToL.toL s) (ToL.toL r).k).k by omega), ?_⟩
  unfold JoinI.joinB at hq
  rw [Bool.and_eq_true] at hq
  exact of_decide_eq_true hq.2
theorem prod_sum (r s : R) : 1 + (ProdFn.prodA r s).length + sumTo (lenF (ProdFn.prodN r s)) (ProdFn.prodN r s).length ≤ 5000 := by
  unfold ProdFn.prodA ProdFn.prodN
  by_cases h : ProdFn.prodC r s = 0
  · rw [if_pos h, if_pos h]
    unfold JoinI.joinA JoinI.joinN
    cases hb : JoinI.joinB ProdI.and2 (ProdFn.prodL r s) (ProdFn.prodM r s) with
    | false => exact none_sum
    | true => exact ResKit.tidyL_sum (prod_few h hb).1 (prod_few h hb).2
  · rw [if_neg h, if_neg h]; exact none_sum
theorem prod_len (r s : R) : (ProdFn.prodN r s).length ≤ 5000 := by
  unfold ProdFn.prodN
  by_cases h : ProdFn.prodC r s = 0
  · rw [if_pos h]
    unfold JoinI.joinN
    cases hb : JoinI.joinB ProdI.and2 (ProdFn.prodL r s) (ProdFn.prodM r s) with
    | false => exact Nat.zero_le _
    | true =>
      have h1 := (prod_few h hb).2
      have h2 := ResKit.tidyNext_len (JoinI.joinL ProdI.and2 (ProdFn.prodL r s) (ProdFn.prodM r s))
      show (TidyRight.tidyNext _).length ≤ 5000
      omega
  · rw [if_neg h]; exact Nat.zero_le _
theorem lawDoor (w : World) (hg : ErrCode.Laid w) (v : Value) (r : R) (hr : RelAt w w.heap.size v r) (u : Value) (s : R) (hs : RelAt w w.heap.size u s) :
    Calls Tryd.prog 3 #[v, u] w fun e w' => e = .returned (.bool true) ∧ Below w.heap.size w w' :=
  law w v r hr u s hs (ProdFn.prodK r s) (ProdFn.prodV r s) (ProdFn.prodA r s) (ProdFn.prodN r s) (fun W v u h h' => ProdS.specProd v u r s W W.heap.size h h' (Nat.le_refl _)) (fun W v u hb h h' => ProdFn.implProd v u r s W W.heap.size h h' (Nat.le_refl _) (hg.below hb)) (prod_sum r s) (prod_len r s)
end Go.Proofs.YtaimealknkhfbaaDoor.LawProductOf
