
/- Scribes in memory: how they are measured, copied and compared.
   Conditions: stated at each theorem. -/
import Derived.Test.YtiklpejcfdhdkaaArrI
import Derived.Test.YtiklpejcfdhdkaaArrS
namespace Go.Proofs.Ytiklpejcfdhdkaa.Scr
set_option linter.unusedVariables false
set_option linter.unusedSimpArgs false
set_option maxRecDepth 100000
open Go.RowKit Mem Copy Rel Equal

/-- A scribe as data. -/
structure X where
  accept : List Bool
  next : List ArrI.D
  out : List ArrS.D

/-- The struct value v reads as the scribe x; its rows lie below block B. -/
def ScAt (w : World) (B : Nat) (v : Value) (x : X) : Prop :=
  ∃ va vn vo, v = .agg #[va, vn, vo] ∧ Bools w B va x.accept ∧ ArrI.Ds w B vn x.next ∧ ArrS.Ds w B vo x.out
theorem ScAt.below {w w' : World} {B B' : Nat} {v : Value} {x : X} (h : ScAt w B v x) (hb : Below B' w w') (hB : B ≤ B') : ScAt w' B v x := by
  obtain ⟨va, vn, vo, hv, h1, h2, h3⟩ := h
  exact ⟨va, vn, vo, hv, h1.below hb hB, h2.below hb hB, h3.below hb hB⟩
theorem ScAt.mono {w : World} {B B' : Nat} {v : Value} {x : X} (h : ScAt w B v x) (hB : B ≤ B') : ScAt w B' v x := by
  obtain ⟨va, vn, vo, hv, h1, h2, h3⟩ := h
  exact ⟨va, vn, vo, hv, h1.mono hB, h2.mono hB, h3.mono hB⟩

/-- Three cells of a block that is there. -/
structure Kept3 (W : World) (b : Nat) (x0 x1 x2 : Value) : Prop where
  c0 : W.cell? ⟨b, 0, none⟩ = some x0
  c1 : W.cell? ⟨b, 1, none⟩ = some x1
  c2 : W.cell? ⟨b, 2, none⟩ = some x2
  lt : b < W.heap.size
theorem Kept3.low {W W' : World} {b B : Nat} {x0 x1 x2 : Value} (h : Kept3 W b x0 x1 x2) (hb : Below B W W') (hB : b < B) (hs : b < W'.heap.size) : Kept3 W' b x0 x1 x2 :=
  ⟨(hb.cell (p := ⟨b, 0, none⟩) hB).trans h.c0, (hb.cell (p := ⟨b, 1, none⟩) hB).trans h.c1, (hb.cell (p := ⟨b, 2, none⟩) hB).trans h.c2, hs⟩
theorem Kept3.step {W W' : World} {b : Nat} {x0 x1 x2 : Value} (h : Kept3 W b x0 x1 x2) (hb : Below W.heap.size W W') : Kept3 W' b x0 x1 x2 :=
  h.low hb h.lt (Nat.lt_of_lt_of_le h.lt hb.size)
theorem Kept3.box {W : World} {b : Nat} {x0 x1 x2 : Value} (h : Kept3 W b x0 x1 x2) (o : Obj) : Kept3 (W.alloc o) b x0 x1 x2 := h.step ((Below.refl _ _).alloc (Nat.le_refl _) _)
theorem Kept3.new (W : World) (x0 x1 x2 : Value) (t : TypeId) : Kept3 (W.alloc (.cells #[x0, x1, x2] t)) W.heap.size x0 x1 x2 :=
  ⟨World.cell?_alloc_mark .., World.cell?_alloc_mark .., World.cell?_alloc_mark .., by simp⟩

/-! How much of a bound is left. -/
def szSc (left : Int) (x : X) : Int :=
  if left < (x.accept.length : Int) then -1 else if left - x.accept.length < (x.next.length : Int) then -1 else ArrS.szPs (left - x.accept.length - x.next.length) x.out

set_option maxHeartbeats 1000000 in
theorem szScribe (v : Value) (x : X) (left : Int) (w : World) (B : Nat) (hr : ScAt w B v x) (hB : B ≤ w.heap.size) (h0 : 0 ≤ left) (h1 : left ≤ 1048576) :
    Calls Try.prog 7 #[v, .int .i64 left] w fun e w' => e = .returned (.int .i64 (szSc left x)) ∧ Below w.heap.size w w' := by
  obtain ⟨va, vn, vo, rfl, hacc, hnext, hout⟩ := hr
  obtain ⟨aa, ba, oa, ca, rfl, hma, -, -⟩ := hacc
  obtain ⟨ab, bb, ob, cb, rfl, hmb, -, -⟩ := hnext
  obtain ⟨n, hn⟩ : ∃ n, n = x.accept.length := ⟨_, rfl⟩
  obtain ⟨m, hm⟩ : ∃ m, m = x.next.length := ⟨_, rfl⟩
  have HS := Lib.hid (show szSc left x = if left < (n : Int) then -1 else if left - n < (m : Int) then -1 else ArrS.szPs (left - n - m) x.out by unfold szSc; rw [hn, hm])
  rw [← hn] at hma
  rw [← hm] at hmb
  rw [← hn, ← hm]
  clear hn hm
  have B0 := Lib.hid (base_box (Below.refl _ w) (.cells #[.slice aa n ca, .slice ab m cb, vo] 26))
  have HX := Lib.hid (fun W (h : Below w.heap.size w W) => hout.below h hB)
  have HBB := Lib.hid hB
  clear hout hB
  by_cases hc : left < (n : Int)
  · have E1 := Lib.hid (show szL left n = -1 by simp [szL, hc])
    have ES := Lib.hid (show szSc left x = -1 by rw [HS.out, if_pos hc])
    go_enter Try.func7, Try.ntmps7
    go_wp2_with (go_at_call 22; refine (szBools aa n ca left _ h0 h1 hma).mono ?_; rw [E1.out]; rintro e w' ⟨rfl, rfl⟩)
    go_ret
    exact ⟨by rw [ES.out]; rfl, B0.out⟩
  · have E1 := Lib.hid (show szL left n = left - n by simp [szL, hc])
    have hn0 : ¬ left - (n : Int) < 0 := by omega
    by_cases hd : left - n < (m : Int)
    · have E2 := Lib.hid (show szL (left - n) m = -1 by simp [szL, hd])
      have ES := Lib.hid (show szSc left x = -1 by rw [HS.out, if_neg hc, if_pos hd])
      go_enter Try.func7, Try.ntmps7
      go_wp2_with (first
        | (go_at_call 22; refine (szBools aa n ca left _ h0 h1 hma).mono ?_; rw [E1.out]; rintro e w' ⟨rfl, rfl⟩)
        | (go_at_call 23; refine (ArrI.szDs ab m cb (left - n) _ (by omega) (by omega) hmb).mono ?_; rw [E2.out]; rintro e w' ⟨rfl, rfl⟩))
      go_ret
      exact ⟨by rw [ES.out]; rfl, B0.out⟩
    · have E2 := Lib.hid (show szL (left - n) m = left - n - m by simp [szL, hd])
      have hm0 : ¬ left - (n : Int) - (m : Int) < 0 := by omega
      have ES := Lib.hid (show szSc left x = ArrS.szPs (left - n - m) x.out by rw [HS.out, if_neg hc, if_neg hd])
      obtain ⟨q, hq⟩ : ∃ q, q = ArrS.szPs (left - n - m) x.out := ⟨_, rfl⟩
      have HC := Lib.hid (fun W (h : Below w.heap.size w W) => ArrS.szDs x.out vo (left - n - m) W B (HX.out W h) (Nat.le_trans HBB.out h.size) (by omega) (by omega))
      rw [← hq] at HC
      have HNG := Lib.hid (show q < 0 → q = -1 by rw [hq]; exact ArrS.szPs_neg (by omega))
      have HQ := Lib.hid hq
      clear hq
      by_cases hneg : q < 0
      all_goals
        go_enter Try.func7, Try.ntmps7
        go_wp2_with (first
          | (go_at_call 22; refine (szBools aa n ca left _ h0 h1 hma).mono ?_; rw [E1.out]; rintro e w' ⟨rfl, rfl⟩)
          | (go_at_call 23; refine (ArrI.szDs ab m cb (left - n) _ (by omega) (by omega) hmb).mono ?_; rw [E2.out]; rintro e w' ⟨rfl, rfl⟩))
        refine (HC.out _ B0.out).mono ?_
        rintro e w1 ⟨rfl, hb⟩
        have B1 := Lib.hid (base_step B0.out hb)
        clear hb
        go_wp2_with fail
        go_ret
        first
          | exact ⟨by rw [ES.out, ← HQ.out, HNG.out hneg]; rfl, B1.out⟩
          | exact ⟨by rw [ES.out, ← HQ.out]; rfl, B1.out⟩

/-- The copy of a scribe. -/
abbrev freshX (M : Nat) (x : X) : Value := .agg #[.slice (some ⟨M, 0, none⟩) x.accept.length x.accept.length, .slice (some ⟨M + 1, 0, none⟩) x.next.length x.next.length, .slice (some ⟨M + 2 + 3 * x.next.length, 0, none⟩) x.out.length x.out.length]
def ShortX (x : X) : Prop := x.accept.length ≤ 1048576 ∧ x.next.length ≤ 1048576 ∧ x.out.length ≤ 1048576
structure FreshX (w : World) (M : Nat) (x : X) : Prop where
  accept : w.rowIs M 4 x.accept.length (fun i => .bool (x.accept.getD i false))
  next : w.rowIs (M + 1) 54 (x.next.length * 2) (ArrI.rowF x.next)
  out : w.rowIs (M + 2 + 3 * x.next.length) 55 (x.out.length * 2) (ArrS.rowF x.out)
  short : ShortX x
  fits : ∀ i, i < x.out.length → (x.out.getD i ArrS.noD).Fits
theorem FreshX.below {w w' : World} {M B : Nat} {x : X} (h : FreshX w M x) (hb : Below B w w') (hB : M + 3 + 3 * x.next.length ≤ B) : FreshX w' M x :=
  ⟨rowIs_below h.accept hb (by omega), rowIs_below h.next hb (by omega), rowIs_below h.out hb (by omega), h.short, h.fits⟩
theorem FreshX.reads {w : World} {M B : Nat} {x : X} (h : FreshX w M x) (hB : M + 3 + 3 * x.next.length ≤ B) : ScAt w B (freshX M x) x :=
  ⟨_, _, _, rfl, Sl.of_row h.accept B (by omega) (by have := h.short.1; unfold maxLen; omega), ArrI.ds_of_row h.next h.short.2.1 (fun _ _ => True.intro) B (by omega), ArrS.ds_of_row h.out h.short.2.2 h.fits B (by omega)⟩

theorem shortX_of {left : Int} {x : X} (hl : left ≤ 1048576) (h : 0 ≤ szSc left x) : ShortX x := by
  unfold szSc at h
  by_cases h1 : left < (x.accept.length : Int)
  · rw [if_pos h1] at h; omega
  · rw [if_neg h1] at h
    by_cases h2 : left - x.accept.length < (x.next.length : Int)
    · rw [if_pos h2] at h; omega
    · rw [if_neg h2] at h
      unfold ArrS.szPs at h
      by_cases h3 : left - x.accept.length - x.next.length < (x.out.length : Int)
      · rw [if_pos h3] at h; omega
      · exact ⟨by omega, by omega, by omega⟩
theorem szTo_low (es : List ArrS.D) : ∀ left : Int, 0 ≤ left → ArrS.szTo left es ≤ left := by
  induction es with
  | nil => intro l h; exact Int.le_refl _
  | cons e r ih =>
    intro l h
    unfold ArrS.szTo
    by_cases h1 : ArrS.szE l e < 0
    · rw [if_pos h1]; omega
    · rw [if_neg h1]
      have := ih (ArrS.szE l e) (by omega)
      have := ArrS.szE_le (left := l) (e := e) (by omega)
      omega
theorem szSc_low {left : Int} {x : X} (h : 0 ≤ left) : szSc left x ≤ left := by
  unfold szSc
  by_cases h1 : left < (x.accept.length : Int)
  · rw [if_pos h1]; omega
  · rw [if_neg h1]
    by_cases h2 : left - x.accept.length < (x.next.length : Int)
    · rw [if_pos h2]; omega
    · rw [if_neg h2]
      unfold ArrS.szPs
      by_cases h3 : left - x.accept.length - x.next.length < (x.out.length : Int)
      · rw [if_pos h3]; omega
      · rw [if_neg h3]
        have := szTo_low x.out (left - x.accept.length - x.next.length - x.out.length) (by omega)
        omega

set_option maxHeartbeats 2000000 in
theorem toScribe (v : Value) (x : X) (w : World) (B : Nat) (hr : ScAt w B v x) (hB : B ≤ w.heap.size) (hs : ShortX x) :
    Calls Try.prog 9 #[v] w fun e w' => e = .returned (freshX (w.heap.size + 3) x) ∧ FreshX w' (w.heap.size + 3) x ∧ Below w.heap.size w w' ∧ w.heap.size + 6 + 3 * x.next.length ≤ w'.heap.size := by
  obtain ⟨va, vn, vo, rfl, hacc, hnext, hout⟩ := hr
  have HFT := Lib.hid hout.fits
  have H1 := Lib.hid (fun W (h : Below w.heap.size w W) => hacc.below h hB)
  have H2 := Lib.hid (fun W (h : Below w.heap.size w W) => hnext.below h hB)
  have H3 := Lib.hid (fun W (h : Below w.heap.size w W) => hout.below h hB)
  have HS := Lib.hid hs
  have HB := Lib.hid hB
  clear hacc hnext hout hs hB
  obtain ⟨ta, tn, to⟩ := x
  simp only at H1 H2 H3 HS HFT ⊢
  go_enter Try.func9, Try.ntmps9
  go_wp2_with fail
  refine (copyBools_at (w.heap.size + 3) ta va _ B (by simp) (H1.out _ (by repeat (first | exact Below.refl _ _ | refine below_drewN ?_ _ | refine Below.alloc ?_ (by simp; try omega) _))) (by have := HB.out; simp; omega) HS.out.1).mono ?_
  rintro e w1 ⟨rfl, hr1, hb1, hs1⟩
  obtain ⟨hc, hf⟩ := bcell hb1
  have R1 := Lib.hid hr1
  have B1 := Lib.hid hb1
  have S1 := Lib.hid hs1
  have BW : Below w.heap.size w w1 := Below.trans (by repeat (first | exact Below.refl _ _ | refine below_drewN ?_ _ | refine Below.alloc ?_ (by simp; try omega) _)) (hb1.mono (by omega))
  clear hr1 hb1 hs1
  have HBW := Lib.hid BW
  clear BW
  go_wp2_with fail
  refine (ArrI.toDs_at (w.heap.size + 4) tn vn _ B (by simp [World.setCell, S1.out]) (H2.out _ (HBW.out.setCell (by show w.heap.size ≤ w.heap.size + 1 + 1; omega) _)) (by have h1 := HB.out; have h2 := S1.out; simp only [World.setCell, Array.size_modify]; omega) HS.out.2.1).mono ?_
  rintro e w3 ⟨rfl, hr3, hb3, hs3⟩
  obtain ⟨hc3, hf3⟩ := bcell hb3
  have R3 := Lib.hid hr3
  have B3 := Lib.hid hb3
  have S3 := Lib.hid hs3
  clear hr3 hb3 hs3
  have F := Lib.hid (R1.out.setOther (a := ⟨w.heap.size + 1 + 1, 0, none⟩) (by show _ ≠ w.heap.size + 1 + 1; omega) (.slice (some ⟨w.heap.size + 3, 0, none⟩) ta.length ta.length))
  have BW3 := Lib.hid ((HBW.out.setCell (p := ⟨w.heap.size + 1 + 1, 0, none⟩) (by show w.heap.size ≤ w.heap.size + 1 + 1; omega) (.slice (some ⟨w.heap.size + 3, 0, none⟩) ta.length ta.length)).trans (B3.out.mono (by omega)))
  have F3 := Lib.hid (rowIs_below F.out B3.out (by omega))
  go_wp2_with fail
  refine (ArrS.toDs_at (w.heap.size + 5 + 3 * tn.length) to vo _ B (by have h2 := S3.out; simp only [World.setCell, Array.size_modify]; omega) (H3.out _ (BW3.out.setCell (by show w.heap.size ≤ w.heap.size + 1 + 1; omega) _)) (by have h1 := HB.out; have h2 := S3.out; simp only [World.setCell, Array.size_modify]; omega) HS.out.2.2).mono ?_
  rintro e w5 ⟨rfl, hr5, hb5, hs5⟩
  obtain ⟨hc5, hf5⟩ := bcell hb5
  have R5 := Lib.hid hr5
  have B5 := Lib.hid hb5
  have S5 := Lib.hid hs5
  clear hr5 hb5 hs5
  have G1 := Lib.hid (rowIs_below (F3.out.setOther (a := ⟨w.heap.size + 1 + 1, 1, none⟩) (by show _ ≠ w.heap.size + 1 + 1; omega) (.slice (some ⟨w.heap.size + 4, 0, none⟩) tn.length tn.length)) B5.out (by omega))
  have G3 := Lib.hid (rowIs_below (R3.out.setOther (a := ⟨w.heap.size + 1 + 1, 1, none⟩) (by show _ ≠ w.heap.size + 1 + 1; omega) (.slice (some ⟨w.heap.size + 4, 0, none⟩) tn.length tn.length)) B5.out (by omega))
  have BW5 := Lib.hid ((BW3.out.setCell (p := ⟨w.heap.size + 1 + 1, 1, none⟩) (by show w.heap.size ≤ w.heap.size + 1 + 1; omega) (.slice (some ⟨w.heap.size + 4, 0, none⟩) tn.length tn.length)).trans (B5.out.mono (by omega)))
  have q1 : w.heap.size + 1 + 1 < w.heap.size + 5 + 3 * tn.length := by omega
  have q2 : w.heap.size + 1 < w.heap.size + 5 + 3 * tn.length := by omega
  go_wp2
  refine bodyPost_ret (v := freshX (w.heap.size + 3) ⟨ta, tn, to⟩) (by simp [results, Try.results9, go_sem, hc, hc3, hc5, freshX, q1, q2, show w.heap.size + 3 + 2 + 3 * tn.length = w.heap.size + 5 + 3 * tn.length by omega]) rfl ⟨rfl, ⟨?_, ?_, ?_, HS.out, HFT.out⟩, ?_, ?_⟩
  · refine World.rowIs.setOther (World.rowIs.setOther (World.rowIs.setOther (World.rowIs.setOther G1.out ?_ _) ?_ _) ?_ _) ?_ _
    all_goals (first | (show _ ≠ w.heap.size + 1; omega) | (show _ ≠ w.heap.size + 1 + 1; omega))
  · refine World.rowIs.setOther (World.rowIs.setOther (World.rowIs.setOther (World.rowIs.setOther G3.out ?_ _) ?_ _) ?_ _) ?_ _
    all_goals (first | (show _ ≠ w.heap.size + 1; omega) | (show _ ≠ w.heap.size + 1 + 1; omega))
  · have e5 : w.heap.size + 3 + 2 + 3 * tn.length = w.heap.size + 5 + 3 * tn.length := by omega
    rw [e5]
    refine World.rowIs.setOther (World.rowIs.setOther (World.rowIs.setOther (World.rowIs.setOther R5.out ?_ _) ?_ _) ?_ _) ?_ _
    all_goals (first | (show _ ≠ w.heap.size + 1; omega) | (show _ ≠ w.heap.size + 1 + 1; omega))
  · refine Below.setCell (Below.setCell (Below.setCell (Below.setCell BW5.out ?_ _) ?_ _) ?_ _) ?_ _
    all_goals (first | (show w.heap.size ≤ w.heap.size + 1; omega) | (show w.heap.size ≤ w.heap.size + 1 + 1; omega))
  · have := S5.out
    simp only [World.setCell, Array.size_modify]
    omega

/-- A copy that the law owns. -/
structure OwnX (W : World) (M : Nat) (x : X) : Prop where
  fresh : FreshX W M x
  top : M + 3 + 3 * x.next.length ≤ W.heap.size
theorem OwnX.step {W W' : World} {M : Nat} {x : X} (h : OwnX W M x) (hb : Below W.heap.size W W') : OwnX W' M x :=
  ⟨h.fresh.below hb h.top, Nat.le_trans h.top hb.size⟩
theorem OwnX.box {W : World} {M : Nat} {x : X} (h : OwnX W M x) (o : Obj) : OwnX (W.alloc o) M x := h.step ((Below.refl _ _).alloc (Nat.le_refl _) _)
theorem OwnX.reads {W : World} {M : Nat} {x : X} (h : OwnX W M x) : ScAt W W.heap.size (freshX M x) x := h.fresh.reads h.top
theorem copySc (v : Value) (x : X) (W : World) (B : Nat) (hr : ScAt W B v x) (hB : B ≤ W.heap.size) (hs : ShortX x) :
    Calls Try.prog 9 #[v] W fun e w' => ∃ M, e = .returned (freshX M x) ∧ OwnX w' M x ∧ Below W.heap.size W w' ∧ W.heap.size ≤ M :=
  (toScribe v x W B hr hB hs).mono fun _ _ ⟨he, hf, hb, hz⟩ => ⟨_, he, ⟨hf, by omega⟩, hb, by omega⟩

def sameX (x y : X) : Bool := same x.accept y.accept && same x.next y.next && same x.out y.out
theorem sameX_self (x : X) : sameX x x = true := by simp [sameX, same_self]

set_option maxHeartbeats 2000000 in
theorem eqScribe (v u : Value) (r s : X) (w : World) (B : Nat) (hr : ScAt w B v r) (hs : ScAt w B u s) (hB : B ≤ w.heap.size) :
    Calls Try.prog 11 #[v, u] w fun e w' => e = .returned (.bool (sameX r s)) ∧ Below w.heap.size w w' := by
  obtain ⟨va, vn, vo, rfl, hacc, hnext, hout⟩ := hr
  obtain ⟨ua, un, uo, rfl, hacc', hnext', hout'⟩ := hs
  obtain ⟨ra, rn, ro⟩ := r
  obtain ⟨sa, sn, so⟩ := s
  simp only at hacc hnext hout hacc' hnext' hout' ⊢
  have HC := Lib.hid (fun W (h : Below w.heap.size w W) => eqBools ra sa va ua W B (hacc.below h hB) (hacc'.below h hB))
  have HD := Lib.hid (fun W (h : Below w.heap.size w W) => ArrI.eqDs rn sn vn un W B (hnext.below h hB) (hnext'.below h hB) (Nat.le_trans hB h.size))
  have HE := Lib.hid (fun W (h : Below w.heap.size w W) => ArrS.eqDs ro so vo uo W B (hout.below h hB) (hout'.below h hB) (Nat.le_trans hB h.size))
  have HB0 := Lib.hid (base_box (base_box (Below.refl _ w) (.cells #[va, vn, vo] 29)) (.cells #[ua, un, uo] 29))
  clear hacc hnext hout hacc' hnext' hout'
  obtain ⟨p, hp⟩ : ∃ p, p = same ra sa := ⟨_, rfl⟩
  obtain ⟨q, hq⟩ : ∃ q, q = same rn sn := ⟨_, rfl⟩
  obtain ⟨z, hz⟩ : ∃ z, z = same ro so := ⟨_, rfl⟩
  have HS := Lib.hid (show sameX ⟨ra, rn, ro⟩ ⟨sa, sn, so⟩ = (p && q && z) by simp [sameX, hp, hq, hz])
  rw [← hp] at HC
  rw [← hq] at HD
  rw [← hz] at HE
  clear hp hq hz
  cases p with
  | false =>
    go_enter Try.func11, Try.ntmps11
    go_wp2_with fail
    refine (HC.out _ HB0.out).mono ?_
    rintro e w1 ⟨rfl, n1, rfl⟩
    go_wp2
    go_ret
    exact ⟨by rw [HS.out]; rfl, by exact below_drewN HB0.out _⟩
  | true =>
    cases q with
    | false =>
      go_enter Try.func11, Try.ntmps11
      go_wp2_with fail
      refine (HC.out _ HB0.out).mono ?_
      rintro e w1 ⟨rfl, n1, rfl⟩
      go_wp2_with fail
      refine (HD.out _ (below_drewN HB0.out _)).mono ?_
      rintro e w2 ⟨rfl, hb⟩
      have B2 := Lib.hid (base_step (below_drewN HB0.out _) hb)
      clear hb
      go_wp2
      go_ret
      exact ⟨by rw [HS.out]; rfl, B2.out⟩
    | true =>
      cases z
      all_goals
        go_enter Try.func11, Try.ntmps11
        go_wp2_with fail
        refine (HC.out _ HB0.out).mono ?_
        rintro e w1 ⟨rfl, n1, rfl⟩
        have q3 := (below_drewN HB0.out n1).cell (p := ⟨w.heap.size, 2, none⟩)
        clear q3
        obtain ⟨W1, hW1⟩ : ∃ W1, W1 = ((w.alloc (.cells #[va, vn, vo] 29)).alloc (.cells #[ua, un, uo] 29)).drewN n1 := ⟨_, rfl⟩
        have k1 : Kept3 W1 w.heap.size va vn vo := by rw [hW1]; exact ((Kept3.new _ _ _ _ _).box _).step (below_drewN (Below.refl _ _) _)
        have k2 : Kept3 W1 (w.heap.size + 1) ua un uo := by
          rw [hW1]
          have := (Kept3.new (w.alloc (.cells #[va, vn, vo] 29)) ua un uo 29).step (below_drewN (Below.refl _ _) n1)
          rwa [World.size_alloc] at this
        have BW1 := Lib.hid (show Below w.heap.size w W1 by rw [hW1]; exact below_drewN HB0.out _)
        have K1 := Lib.hid k1
        have K2 := Lib.hid k2
        rw [← hW1]
        clear hW1
        obtain ⟨a0, a1, a2, -⟩ := k1
        obtain ⟨b0, b1, b2, -⟩ := k2
        go_wp2_with fail
        refine (HD.out _ BW1.out).mono ?_
        rintro e w2 ⟨rfl, hb⟩
        have B2 := Lib.hid (base_step BW1.out hb)
        obtain ⟨c0, c1, c2, -⟩ := K1.out.step hb
        obtain ⟨d0, d1, d2, -⟩ := K2.out.step hb
        clear hb a0 a1 a2 b0 b1 b2
        go_wp2_with fail
        refine (HE.out _ B2.out).mono ?_
        rintro e w3 ⟨rfl, hb⟩
        have B3 := Lib.hid (base_step B2.out hb)
        clear hb
        go_wp2
        go_ret
        exact ⟨by rw [HS.out]; rfl, B3.out⟩
end Go.Proofs.Ytiklpejcfdhdkaa.Scr
