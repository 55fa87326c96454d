
/- Whether a transducer is valid, by the model and by the program.
   Conditions: the transducer is read as XEdg's text says. -/
import Derived.Test.YtjoiaenkmmmmpaaEdg
import Derived.Test.YtjoiaenkmmmmpaaEdgEq
import Derived.Test.YtjoiaenkmmmmpaaEdgCopy
import Derived.Test.YtjoiaenkmmmmpaaColumns
import Derived.Test.YtjoiaenkmmmmpaaWord
import Derived.Laws.IdiomStrings
namespace Go.Proofs.Ytjoiaenkmmmmpaa.TrValid
set_option linter.unusedVariables false
set_option linter.unusedSimpArgs false
open Go.RowKit Mem Rel Edg EdgEq Columns WordMath Word

/-- At most one letter. -/
def letB (s : ByteArray) : Bool := decide (s.size ≤ 1) && wordB s
def edgeOk (n : Int) (e : E) : Bool := inB e.src 0 (n - 1) && inB e.dst 0 (n - 1) && letB e.inn && letB e.out
def formT (t : T) : Bool := inB t.start 0 (t.accept.length - 1) && t.edges.all (edgeOk t.accept.length)
def okT (t : T) : Bool := decide ((t.accept.length : Int) ≤ 40) && decide ((t.edges.length : Int) ≤ 200) && formT t

theorem size_nil {s : ByteArray} (h : s.size = 0) : s = ⟨#[]⟩ := by
  apply ByteArray.ext
  apply Array.eq_empty_of_size_eq_zero
  exact h
theorem size_one {s : ByteArray} (h : s.size = 1) : s = ⟨#[s.data[0]'(by have : s.data.size = 1 := h; omega)]⟩ := by
  apply ByteArray.ext
  have h' : s.data.size = 1 := h
  apply Array.ext
  · simp [h']
  · intro i h1 h2
    have : i = 0 := by simp at h2; omega
    subst this
    simp
theorem letB_cases (s : ByteArray) : letB s = true → s = ⟨#[]⟩ ∨ s = ⟨#[97]⟩ ∨ s = ⟨#[98]⟩ := by
  intro h
  unfold letB at h
  rw [Bool.and_eq_true] at h
  have h1 : s.size ≤ 1 := of_decide_eq_true h.1
  by_cases h0 : s.size = 0
  · exact .inl (size_nil h0)
  · have hs := size_one (s := s) (by omega)
    generalize s.data[0]'_ = c at hs
    subst hs
    have h2 := h.2
    unfold wordB good letter at h2
    simp at h2
    rcases h2.1 with e | e
    · subst e; exact .inr (.inl rfl)
    · subst e; exact .inr (.inr rfl)
theorem ne_nil {s : ByteArray} (h : ¬ s = ⟨#[]⟩) : s.toList.isEmpty = false ∧ ¬ s.toList = [] := by
  have h1 := bytes_ne h
  rw [ByteArray.toList_eq ⟨#[]⟩] at h1
  have h2 : ¬ s.toList = [] := by simpa using h1
  exact ⟨by simpa using h2, h2⟩
theorem ne_one {s : ByteArray} {c : UInt8} (h : ¬ s = ⟨#[c]⟩) : (s.toList == [c]) = false ∧ ¬ s.toList = [c] := by
  have h1 := bytes_ne h
  rw [ByteArray.toList_eq ⟨#[c]⟩] at h1
  have h2 : (s.toList == [c]) = false := h1
  exact ⟨h2, by simpa using h2⟩
theorem letB_nil : letB ⟨#[]⟩ = true := by decide
theorem letB_a : letB ⟨#[97]⟩ = true := by decide
theorem letB_b : letB ⟨#[98]⟩ = true := by decide

set_option maxHeartbeats 400000 in
theorem specLetter (s : ByteArray) (w : World) :
    Calls Try.prog 95 #[.string s] w fun e w' => e = .returned (.bool (letB s)) ∧ w = w' := by
  by_cases h0 : s = ⟨#[]⟩
  · subst h0
    rw [letB_nil]
    go_enter Try.func95, Try.ntmps95
    go_wp2
    go_ret
    exact ⟨rfl, rfl⟩
  · obtain ⟨t0, t0'⟩ := ne_nil h0
    by_cases h1 : s = ⟨#[97]⟩
    · subst h1
      rw [letB_a]
      go_enter Try.func95, Try.ntmps95
      go_wp2
      go_ret
      exact ⟨rfl, rfl⟩
    · obtain ⟨t1, t1'⟩ := ne_one h1
      by_cases h2 : s = ⟨#[98]⟩
      · subst h2
        rw [letB_b]
        go_enter Try.func95, Try.ntmps95
        go_wp2
        go_ret
        exact ⟨rfl, rfl⟩
      · obtain ⟨t2, t2'⟩ := ne_one h2
        have HE := Lib.hid (show letB s = false by
          cases h : letB s with
          | false => rfl
          | true => rcases letB_cases s h with e | e | e <;> contradiction)
        clear h0 h1 h2
        go_enter Try.func95, Try.ntmps95
        go_wp2
        go_ret
        exact ⟨by rw [HE.out]; rfl, rfl⟩

theorem withinAny (x lo hi : Int) (w : World) :
    Calls Try.prog 40 #[.int .i64 x, .int .i64 lo, .int .i64 hi] w fun e w' => e = .returned (.bool (inB x lo hi)) ∧ w = w' := by
  by_cases h : lo ≤ x
  · by_cases h2 : x ≤ hi
    · have E : inB x lo hi = true := by simp [inB, h, h2]
      have d1 : decide (lo ≤ x) = true := by simpa using h
      have d2 : decide (x ≤ hi) = true := by simpa using h2
      go_enter Try.func40, Try.ntmps40
      go_wp2
      go_ret
      exact ⟨by first | rfl | (rw [E]; rfl), rfl⟩
    · have E : inB x lo hi = false := by simp [inB, h2]
      have d1 : decide (lo ≤ x) = true := by simpa using h
      have d2 : decide (x ≤ hi) = false := by simpa using h2
      go_enter Try.func40, Try.ntmps40
      go_wp2
      go_ret
      exact ⟨by first | rfl | (rw [E]; rfl), rfl⟩
  · have E : inB x lo hi = false := by simp [inB, h]
    have d1 : decide (lo ≤ x) = false := by simpa using h
    go_enter Try.func40, Try.ntmps40
    go_wp2
    go_ret
    exact ⟨by first | rfl | (rw [E]; rfl), rfl⟩

theorem all_next (es : List E) (n : Int) (k : Nat) (h : k < es.length) (g : (es.take k).all (edgeOk n) = true) (e : edgeOk n (es.getD k noE) = true) : (es.take (k + 1)).all (edgeOk n) = true := by
  rw [take_succ_getD es noE k h, List.all_append, g, List.all_cons, e]; rfl
theorem all_not (es : List E) (n : Int) (k : Nat) (h : k < es.length) (e : edgeOk n (es.getD k noE) = false) : es.all (edgeOk n) = false := by
  rw [List.all_eq_false]
  exact ⟨es.getD k noE, by simp [List.getD, h], by rw [e]; exact Bool.false_ne_true⟩
theorem all_yes (es : List E) (n : Int) (k : Nat) (h : es.length ≤ k) (g : (es.take k).all (edgeOk n) = true) : es.all (edgeOk n) = true := by
  rwa [List.take_of_length_le h] at g

/-- A transducer behind a pointer. -/
structure TrPtr (w : World) (B : Nat) (bp : Nat) (t : T) (va vn : Value) : Prop where
  box : EdgCopy.Kept3 w bp (.int .i64 t.start) va vn
  acc : Bools w B va t.accept
  edges : Edges w B vn t.edges

set_option maxHeartbeats 2000000 in
theorem specForm (t : T) (va vn : Value) (bp : Nat) (w : World) (B : Nat) (h : TrPtr w B bp t va vn) :
    Calls Try.prog 74 #[.pointer (some ⟨bp, 0, none⟩)] w fun e w' => e = .returned (.bool (formT t)) ∧ w = w' := by
  obtain ⟨⟨k0, k1, k2, -⟩, hacc, hed⟩ := h
  obtain ⟨ts, ta, te⟩ := t
  simp only at k0 hacc hed ⊢
  obtain ⟨aa, ba, oa, ca, rfl, hma, -, -⟩ := hacc
  obtain ⟨ab, bb, ob, cb, rfl, hmb, hbb, hcb⟩ := hed
  obtain ⟨n, hn⟩ : ∃ n, n = ta.length := ⟨_, rfl⟩
  obtain ⟨q, hq⟩ : ∃ q, q = te.length := ⟨_, rfl⟩
  rw [← hn] at hma k1
  rw [← hq] at hmb k2 hbb hcb
  unfold maxLen at hma hmb
  have HF := Lib.hid (show formT ⟨ts, ta, te⟩ = (inB ts 0 ((n : Int) - 1) && te.all (edgeOk n)) by unfold formT; rw [hn])
  have HQ := Lib.hid hq
  have HC := Lib.hid hcb
  clear hn hq hcb
  by_cases g1 : inB ts 0 ((n : Int) - 1) = true
  · have HE := Lib.hid (show formT ⟨ts, ta, te⟩ = te.all (edgeOk n) by rw [HF.out, g1]; rfl)
    clear HF
    go_enter Try.func74, Try.ntmps74
    go_wp2_with (go_at_call 94; refine (inRange _ _ _ _).mono ?_; rintro e w' ⟨rfl, rfl⟩)
    go_loop [4, 5] (fun i p => ∃ k : Nat, k ≤ q ∧ i = .int .i64 k ∧ (te.take k).all (edgeOk n) = true) (fun i _ => q - (intOf i).toNat)
    case atStart => exact ⟨0, Nat.zero_le _, rfl, rfl⟩
    case round =>
      obtain ⟨k, hk, rfl, hg⟩ := hrel
      have HG := Lib.hid hg
      clear hg
      by_cases hlt : k < q
      · obtain rfl := (hbb (by omega)).1
        have h4 := (HC.out k hlt).1
        obtain ⟨x, hx⟩ : ∃ x, x = te.getD k noE := ⟨_, rfl⟩
        rw [← hx] at h4
        have HX := Lib.hid hx
        clear hx hbb
        obtain ⟨c0, c1, c2, c3⟩ := h4
        have HO := Lib.hid (show edgeOk n x = (inB x.src 0 ((n : Int) - 1) && inB x.dst 0 ((n : Int) - 1) && letB x.inn && letB x.out) from rfl)
        have HNO := Lib.hid (fun h : edgeOk n x = false => (show formT ⟨ts, ta, te⟩ = false by rw [HE.out]; exact all_not te n k (by rw [← HQ.out]; exact hlt) (by rw [← HX.out]; exact h)))
        have HYES := Lib.hid (fun h : edgeOk n x = true => all_next te n k (by rw [← HQ.out]; exact hlt) HG.out (by rw [← HX.out]; exact h))
        clear HX
        obtain ⟨xs, xd, xi, xo⟩ := x
        simp only at c0 c1 c2 c3 HO
        cases e1 : inB xs 0 ((n : Int) - 1) with
        | false =>
          have HR := Lib.hid (HNO.out (by rw [HO.out, e1]; rfl))
          go_wp2_with (first | (go_at_call 94; refine (inRange _ _ _ _).mono ?_; rintro e w' ⟨rfl, rfl⟩) | (go_at_call 95; refine (specLetter _ _).mono ?_; rintro e w' ⟨rfl, rfl⟩))
          go_ret
          exact ⟨by rw [HR.out]; rfl, rfl⟩
        | true =>
          cases e2 : inB xd 0 ((n : Int) - 1) with
          | false =>
            have HR := Lib.hid (HNO.out (by rw [HO.out, e1, e2]; rfl))
            go_wp2_with (first | (go_at_call 94; refine (inRange _ _ _ _).mono ?_; rintro e w' ⟨rfl, rfl⟩) | (go_at_call 95; refine (specLetter _ _).mono ?_; rintro e w' ⟨rfl, rfl⟩))
            go_ret
            exact ⟨by rw [HR.out]; rfl, rfl⟩
          | true =>
            cases e3 : letB xi with
            | false =>
              have HR := Lib.hid (HNO.out (by rw [HO.out, e1, e2, e3]; rfl))
              go_wp2_with (first | (go_at_call 94; refine (inRange _ _ _ _).mono ?_; rintro e w' ⟨rfl, rfl⟩) | (go_at_call 95; refine (specLetter _ _).mono ?_; rintro e w' ⟨rfl, rfl⟩))
              go_ret
              exact ⟨by rw [HR.out]; rfl, rfl⟩
            | true =>
              cases e4 : letB xo with
              | false =>
                have HR := Lib.hid (HNO.out (by rw [HO.out, e1, e2, e3, e4]; rfl))
                go_wp2_with (first | (go_at_call 94; refine (inRange _ _ _ _).mono ?_; rintro e w' ⟨rfl, rfl⟩) | (go_at_call 95; refine (specLetter _ _).mono ?_; rintro e w' ⟨rfl, rfl⟩))
                go_ret
                exact ⟨by rw [HR.out]; rfl, rfl⟩
              | true =>
                have HR := Lib.hid (HYES.out (by rw [HO.out, e1, e2, e3, e4]; rfl))
                go_wp2_with (first | (go_at_call 94; refine (inRange _ _ _ _).mono ?_; rintro e w' ⟨rfl, rfl⟩) | (go_at_call 95; refine (specLetter _ _).mono ?_; rintro e w' ⟨rfl, rfl⟩))
                go_round
                case rel => exact ⟨k + 1, by omega, by go_num, HR.out⟩
                case measure => simp [intOf]; omega
      · have HR := Lib.hid (show formT ⟨ts, ta, te⟩ = true by rw [HE.out]; exact all_yes te n k (by rw [← HQ.out]; omega) HG.out)
        clear hbb
        go_wp2
        go_ret
        exact ⟨by rw [HR.out]; rfl, rfl⟩
  · have g1 : inB ts 0 ((n : Int) - 1) = false := by simpa using g1
    have HE := Lib.hid (show formT ⟨ts, ta, te⟩ = false by rw [HF.out, g1]; rfl)
    clear HF
    go_enter Try.func74, Try.ntmps74
    go_wp2_with (go_at_call 94; refine (inRange _ _ _ _).mono ?_; rintro e w' ⟨rfl, rfl⟩)
    go_ret
    exact ⟨by rw [HE.out]; rfl, rfl⟩

set_option maxHeartbeats 1000000 in
theorem specOk (t : T) (va vn : Value) (bp : Nat) (w : World) (B : Nat) (h : TrPtr w B bp t va vn) :
    Calls Try.prog 37 #[.pointer (some ⟨bp, 0, none⟩)] w fun e w' => e = .returned (.bool (okT t)) ∧ w = w' := by
  have HFM := Lib.hid (specForm t va vn bp w B h)
  obtain ⟨⟨k0, k1, k2, -⟩, hacc, hed⟩ := h
  obtain ⟨aa, ba, oa, ca, rfl, hma, -, -⟩ := hacc
  obtain ⟨ab, bb, ob, cb, rfl, hmb, -, -⟩ := hed
  unfold maxLen at hma hmb
  obtain ⟨n, hn⟩ : ∃ n, n = t.accept.length := ⟨_, rfl⟩
  obtain ⟨q, hq⟩ : ∃ q, q = t.edges.length := ⟨_, rfl⟩
  obtain ⟨f, hf⟩ : ∃ f, f = formT t := ⟨_, rfl⟩
  have HO := Lib.hid (show okT t = (decide ((n : Int) ≤ 40) && decide ((q : Int) ≤ 200) && f) by unfold okT; rw [hn, hq, hf])
  rw [← hn] at hma k1
  rw [← hq] at hmb k2
  rw [← hf] at HFM
  clear hn hq hf
  by_cases g1 : (n : Int) ≤ 40
  · have d1 : decide ((n : Int) ≤ 40) = true := by simpa using g1
    by_cases g2 : (q : Int) ≤ 200
    · have d2 : decide ((q : Int) ≤ 200) = true := by simpa using g2
      have HE := Lib.hid (show okT t = f by rw [HO.out, d1, d2]; rfl)
      clear HO
      go_enter Try.func37, Try.ntmps37
      go_wp2_with fail
      refine HFM.out.mono ?_
      rintro e w' ⟨rfl, rfl⟩
      go_wp2
      go_ret
      exact ⟨by rw [HE.out]; rfl, rfl⟩
    · have d2 : decide ((q : Int) ≤ 200) = false := by simpa using g2
      have HE := Lib.hid (show okT t = false by rw [HO.out, d1, d2]; rfl)
      clear HO
      go_enter Try.func37, Try.ntmps37
      go_wp2
      go_ret
      exact ⟨by rw [HE.out]; rfl, rfl⟩
  · have d1 : decide ((n : Int) ≤ 40) = false := by simpa using g1
    have HE := Lib.hid (show okT t = false by rw [HO.out, d1]; rfl)
    clear HO
    go_enter Try.func37, Try.ntmps37
    go_wp2
    go_ret
    exact ⟨by rw [HE.out]; rfl, rfl⟩
end Go.Proofs.Ytjoiaenkmmmmpaa.TrValid
