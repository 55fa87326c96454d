
/- Whether a scribe is valid, by the model and by the program.
   Conditions: the scribe is read as XScr's text says. -/
import Derived.Test.YtiklpejcfdhdkaaScr
import Derived.Test.YtiklpejcfdhdkaaColumns
import Derived.Test.YtiklpejcfdhdkaaWord
import Derived.Laws.IdiomStrings
namespace Go.Proofs.Ytiklpejcfdhdkaa.ScrValid
set_option linter.unusedVariables false
set_option linter.unusedSimpArgs false
set_option maxRecDepth 100000
open Go.RowKit Mem Copy Rel Scr Columns

theorem withinAny (x lo hi : Int) (w : World) :
    Calls Try.prog 29 #[.int .i64 x, .int .i64 lo, .int .i64 hi] w fun e w' => e = .returned (.bool (inB x lo hi)) ∧ w = w' := by
  by_cases h : lo ≤ x
  · by_cases h2 : x ≤ hi
    · have E : inB x lo hi = true := by simp [inB, h, h2]
      have d1 : decide (lo ≤ x) = true := by simpa using h
      have d2 : decide (x ≤ hi) = true := by simpa using h2
      go_enter Try.func29, Try.ntmps29
      go_wp2
      go_ret
      exact ⟨by first | rfl | (rw [E]; rfl), rfl⟩
    · have E : inB x lo hi = false := by simp [inB, h2]
      have d1 : decide (lo ≤ x) = true := by simpa using h
      have d2 : decide (x ≤ hi) = false := by simpa using h2
      go_enter Try.func29, Try.ntmps29
      go_wp2
      go_ret
      exact ⟨by first | rfl | (rw [E]; rfl), rfl⟩
  · have E : inB x lo hi = false := by simp [inB, h]
    have d1 : decide (lo ≤ x) = false := by simpa using h
    go_enter Try.func29, Try.ntmps29
    go_wp2
    go_ret
    exact ⟨by first | rfl | (rw [E]; rfl), rfl⟩

theorem ne_nil {s : ByteArray} (h : ¬ s = ⟨#[]⟩) : s.toList.isEmpty = false ∧ ¬ s.toList = [] := by
  have h1 := ArrS.bytes_ne h
  rw [ByteArray.toList_eq ⟨#[]⟩] at h1
  have h2 : ¬ s.toList = [] := by simpa using h1
  exact ⟨by simpa using h2, h2⟩
theorem ne_one {s : ByteArray} {c : UInt8} (h : ¬ s = ⟨#[c]⟩) : (s.toList == [c]) = false ∧ ¬ s.toList = [c] := by
  have h1 := ArrS.bytes_ne h
  rw [ByteArray.toList_eq ⟨#[c]⟩] at h1
  have h2 : (s.toList == [c]) = false := h1
  exact ⟨h2, by simpa using h2⟩

/-- One letter of one state: refused on both sides, or written and led on. -/
def half (n a : Int) (s : ByteArray) : Bool := (decide (a = -1) && decide (s = ⟨#[]⟩)) || (inB a 0 (n - 1) && (decide (s = ⟨#[97]⟩) || decide (s = ⟨#[98]⟩)))
def okAt (n : Int) (d : ArrI.D) (o : ArrS.D) : Bool := half n d.x o.x && half n d.y o.y
def okX (x : X) : Bool := inB x.accept.length 1 150 && decide (x.next.length = x.accept.length) && decide (x.out.length = x.accept.length) && (List.range x.accept.length).all fun i => okAt x.accept.length (x.next.getD i ArrI.noD) (x.out.getD i ArrS.noD)

theorem inB_one (n : Int) : inB (-1) 0 n = false := by simp [inB]
theorem half_yes {n a : Int} {s : ByteArray} (h : half n a s = true) :
    (a = -1 ∧ s = ⟨#[]⟩ ∧ inB a 0 (n - 1) = false) ∨ ((a == -1) = false ∧ inB a 0 (n - 1) = true ∧ s = ⟨#[97]⟩) ∨ ((a == -1) = false ∧ inB a 0 (n - 1) = true ∧ s = ⟨#[98]⟩) := by
  unfold half at h
  simp only [Bool.or_eq_true, Bool.and_eq_true, decide_eq_true_eq] at h
  rcases h with ⟨rfl, h⟩ | ⟨h1, h2⟩
  · exact .inl ⟨rfl, h, inB_one _⟩
  · have h3 : (a == -1) = false := by
      rw [beq_eq_false_iff_ne]
      rintro rfl
      rw [inB_one] at h1; exact Bool.noConfusion h1
    rcases h2 with h2 | h2
    · exact .inr (.inl ⟨h3, h1, h2⟩)
    · exact .inr (.inr ⟨h3, h1, h2⟩)
theorem half_no {n a : Int} {s : ByteArray} (h : half n a s = false) :
    (a = -1 ∧ inB a 0 (n - 1) = false ∧ ¬ s = ⟨#[]⟩) ∨ ((a == -1) = false ∧ inB a 0 (n - 1) = false) ∨ ((a == -1) = false ∧ inB a 0 (n - 1) = true ∧ ¬ s = ⟨#[97]⟩ ∧ ¬ s = ⟨#[98]⟩) := by
  unfold half at h
  simp only [Bool.or_eq_false_iff, Bool.and_eq_false_iff, decide_eq_false_iff_not] at h
  obtain ⟨h1, h2⟩ := h
  by_cases ha : a = -1
  · subst ha
    refine .inl ⟨rfl, inB_one _, ?_⟩
    rcases h1 with h1 | h1
    · exact absurd rfl h1
    · exact h1
  · have h3 : (a == -1) = false := by simpa using ha
    rcases h2 with h2 | ⟨h2, h4⟩
    · exact .inr (.inl ⟨h3, h2⟩)
    · cases hb : inB a 0 (n - 1) with
      | false => exact .inr (.inl ⟨h3, rfl⟩)
      | true => exact .inr (.inr ⟨h3, rfl, h2, h4⟩)

theorem okX_not {x : X} {i : Nat} (hi : i < x.accept.length) (h : okAt x.accept.length (x.next.getD i ArrI.noD) (x.out.getD i ArrS.noD) = false) : okX x = false := by
  have : (List.range x.accept.length).all (fun i => okAt x.accept.length (x.next.getD i ArrI.noD) (x.out.getD i ArrS.noD)) = false := by
    rw [List.all_eq_false]
    exact ⟨i, List.mem_range.2 hi, by rw [h]; exact Bool.false_ne_true⟩
  unfold okX
  rw [this, Bool.and_false]
theorem okX_yes {x : X} (h1 : inB x.accept.length 1 150 = true) (h2 : x.next.length = x.accept.length) (h3 : x.out.length = x.accept.length)
    (h : ∀ i, i < x.accept.length → okAt x.accept.length (x.next.getD i ArrI.noD) (x.out.getD i ArrS.noD) = true) : okX x = true := by
  have : (List.range x.accept.length).all (fun i => okAt x.accept.length (x.next.getD i ArrI.noD) (x.out.getD i ArrS.noD)) = true := by
    rw [List.all_eq_true]
    exact fun i hi => h i (List.mem_range.1 hi)
  unfold okX
  rw [this, h1, decide_eq_true h2, decide_eq_true h3]; rfl
theorem okX_n {x : X} (h1 : inB x.accept.length 1 150 = false) : okX x = false := by unfold okX; rw [h1]; rfl
theorem okX_next {x : X} (h : ¬ x.next.length = x.accept.length) : okX x = false := by unfold okX; rw [decide_eq_false h]; simp
theorem okX_out {x : X} (h : ¬ x.out.length = x.accept.length) : okX x = false := by unfold okX; rw [decide_eq_false h]; simp
theorem okAt_no1 {n : Int} {d : ArrI.D} {o : ArrS.D} (h : half n d.x o.x = false) : okAt n d o = false := by unfold okAt; rw [h]; rfl
theorem okAt_no2 {n : Int} {d : ArrI.D} {o : ArrS.D} (h : half n d.y o.y = false) : okAt n d o = false := by unfold okAt; rw [h, Bool.and_false]
theorem okAt_yes {n : Int} {d : ArrI.D} {o : ArrS.D} (h1 : half n d.x o.x = true) (h2 : half n d.y o.y = true) : okAt n d o = true := by unfold okAt; rw [h1, h2]; rfl

/-- A scribe behind a pointer. -/
structure ScPtr (w : World) (B : Nat) (bp : Nat) (x : X) (va vn vo : Value) : Prop where
  box : Kept3 w bp va vn vo
  acc : Bools w B va x.accept
  next : ArrI.Ds w B vn x.next
  out : ArrS.Ds w B vo x.out

set_option maxHeartbeats 4000000 in
theorem specOk (x : X) (va vn vo : Value) (bp : Nat) (w : World) (B : Nat) (h : ScPtr w B bp x va vn vo) :
    Calls Try.prog 25 #[.pointer (some ⟨bp, 0, none⟩)] w fun e w' => e = .returned (.bool (okX x)) ∧ w = w' := by
  obtain ⟨⟨k0, k1, k2, -⟩, hacc, hnx, hou⟩ := h
  obtain ⟨aa, ba, oa, ca, rfl, hma, -, -⟩ := hacc
  obtain ⟨ab, bb, ob, cb, rfl, hmb, hbb, hcb⟩ := hnx
  obtain ⟨ad, bd, od, cd, rfl, hmd, hbd, hcd⟩ := hou
  unfold maxLen at hma hmb hmd
  have HF1 := Lib.hid (fun h => okX_n (x := x) h)
  have HF2 := Lib.hid (fun h => okX_next (x := x) h)
  have HF3 := Lib.hid (fun h => okX_out (x := x) h)
  have HF4 := Lib.hid (fun i hi h => okX_not (x := x) (i := i) hi h)
  have HF5 := Lib.hid (fun h1 h2 h3 h => okX_yes (x := x) h1 h2 h3 h)
  obtain ⟨xa, xn, xo⟩ := x
  obtain ⟨n, hn⟩ : ∃ n, n = xa.length := ⟨_, rfl⟩
  obtain ⟨m, hm⟩ : ∃ m, m = xn.length := ⟨_, rfl⟩
  obtain ⟨q, hq⟩ : ∃ q, q = xo.length := ⟨_, rfl⟩
  simp only at hma hmb hbb hcb hmd hbd hcd k0 k1 k2 HF1 HF2 HF3 HF4 HF5
  rw [← hn] at hma k0 HF1 HF2 HF3 HF4 HF5
  rw [← hm] at hmb k1 hbb hcb HF2 HF5
  rw [← hq] at hmd k2 hbd hcd HF3 HF5
  have HC := Lib.hid hcb
  have HD := Lib.hid hcd
  clear hn hm hq hcb hcd
  cases g1 : inB (n : Int) 1 150 with
  | false =>
    have HE := Lib.hid (HF1.out g1)
    clear HF1 HF2 HF3 HF4 HF5 hbb hbd
    by_cases h1 : (n : Int) < 1
    · go_enter Try.func25, Try.ntmps25
      go_wp2
      go_ret
      exact ⟨by rw [HE.out]; rfl, rfl⟩
    · have h2 : (n : Int) > 150 := by
        unfold inB at g1
        simp at g1
        omega
      go_enter Try.func25, Try.ntmps25
      go_wp2
      go_ret
      exact ⟨by rw [HE.out]; rfl, rfl⟩
  | true =>
    have hn1 : 1 ≤ (n : Int) ∧ (n : Int) ≤ 150 := by unfold inB at g1; simpa using g1
    obtain ⟨hn0, hn150⟩ := hn1
    have G1 := Lib.hid g1
    clear g1
    have t0 : ¬ (n : Int) < 1 := by omega
    have t1 : ¬ (n : Int) > 150 := by omega
    by_cases hmn : m = n
    · by_cases hqn : q = n
      · subst hmn hqn
        clear HF1 HF2 HF3
        have HF6 := Lib.hid (HF5.out G1.out rfl rfl)
        clear HF5
        go_enter Try.func25, Try.ntmps25
        go_wp2
        go_loop [4] (fun i => ∃ k : Nat, k ≤ q ∧ i = .int .i64 k ∧ ∀ i, i < k → okAt q (xn.getD i ArrI.noD) (xo.getD i ArrS.noD) = true) (fun i => q - (intOf i).toNat)
        case atStart => exact ⟨0, Nat.zero_le _, rfl, fun i hi => absurd hi (Nat.not_lt_zero i)⟩
        case round =>
          obtain ⟨k, hk, rfl, hg⟩ := hrel
          have HG := Lib.hid hg
          clear hg
          by_cases hlt : k < q
          · obtain rfl := (hbb (by omega)).1
            obtain rfl := (hbd (by omega)).1
            obtain ⟨c0, c1⟩ := (HC.out k hlt).1
            obtain ⟨d0, d1⟩ := (HD.out k hlt).1
            have HNO := Lib.hid (HF4.out k hlt)
            obtain ⟨d, hd⟩ : ∃ d, d = xn.getD k ArrI.noD := ⟨_, rfl⟩
            obtain ⟨o, ho⟩ : ∃ o, o = xo.getD k ArrS.noD := ⟨_, rfl⟩
            rw [← hd] at c0 c1 HNO
            rw [← ho] at d0 d1 HNO
            have HYES := Lib.hid (fun h : okAt q d o = true => (show ∀ i, i < k + 1 → okAt q (xn.getD i ArrI.noD) (xo.getD i ArrS.noD) = true from fun i hi => by
              by_cases e : i = k
              · subst e; rw [← hd, ← ho]; exact h
              · exact HG.out i (by omega)))
            have HA1 := Lib.hid (fun h => HNO.out (okAt_no1 (n := q) (d := d) (o := o) h))
            have HA2 := Lib.hid (fun h => HNO.out (okAt_no2 (n := q) (d := d) (o := o) h))
            have HA3 := Lib.hid (fun h1 h2 => HYES.out (okAt_yes (n := q) (d := d) (o := o) h1 h2))
            obtain ⟨dx, dy⟩ := d
            obtain ⟨ox, oy⟩ := o
            simp only at c0 c1 d0 d1 HA1 HA2 HA3
            clear hd ho HNO HYES hbb hbd HC HD HF4 HF6
            cases e1 : half q dx ox with
            | false =>
              have HR := Lib.hid (HA1.out e1)
              clear HA1 HA2 HA3
              rcases half_no e1 with ⟨rfl, i1, s1⟩ | ⟨z1, i1⟩ | ⟨z1, i1, s1, s2⟩
              · obtain ⟨u1, u2⟩ := ne_nil s1
                clear e1
                go_wp2
                refine wp_loop_rounds 3 ?_
                rw [rounds_succ]
                go_wp2_with (go_at_call 56; refine (inRange _ _ _ _).mono ?_; rintro e w' ⟨rfl, rfl⟩)
                go_ret
                exact ⟨by rw [HR.out]; rfl, rfl⟩
              · clear e1
                go_wp2
                refine wp_loop_rounds 3 ?_
                rw [rounds_succ]
                go_wp2_with (go_at_call 56; refine (inRange _ _ _ _).mono ?_; rintro e w' ⟨rfl, rfl⟩)
                go_ret
                exact ⟨by rw [HR.out]; rfl, rfl⟩
              · obtain ⟨u1, u2⟩ := ne_one s1
                obtain ⟨u3, u4⟩ := ne_one s2
                clear e1
                go_wp2
                refine wp_loop_rounds 3 ?_
                rw [rounds_succ]
                go_wp2_with (go_at_call 56; refine (inRange _ _ _ _).mono ?_; rintro e w' ⟨rfl, rfl⟩)
                go_ret
                exact ⟨by rw [HR.out]; rfl, rfl⟩
            | true =>
              have HA2 := Lib.hid HA2.out
              have HA3 := Lib.hid (HA3.out e1)
              clear HA1
              cases e2 : half q dy oy with
              | false =>
                have HR := Lib.hid (HA2.out e2)
                clear HA2 HA3
                rcases half_yes e1 with ⟨rfl, rfl, i1⟩ | ⟨z1, i1, rfl⟩ | ⟨z1, i1, rfl⟩
                all_goals
                  clear e1
                  rcases half_no e2 with ⟨rfl, j1, s1⟩ | ⟨y1, j1⟩ | ⟨y1, j1, s1, s2⟩
                  · obtain ⟨u1, u2⟩ := ne_nil s1
                    clear e2
                    go_wp2
                    refine wp_loop_rounds 3 ?_
                    rw [rounds_succ]
                    go_wp2_with (go_at_call 56; refine (inRange _ _ _ _).mono ?_; rintro e w' ⟨rfl, rfl⟩)
                    rw [rounds_succ]
                    go_wp2_with (go_at_call 56; refine (inRange _ _ _ _).mono ?_; rintro e w' ⟨rfl, rfl⟩)
                    go_ret
                    exact ⟨by rw [HR.out]; rfl, rfl⟩
                  · clear e2
                    go_wp2
                    refine wp_loop_rounds 3 ?_
                    rw [rounds_succ]
                    go_wp2_with (go_at_call 56; refine (inRange _ _ _ _).mono ?_; rintro e w' ⟨rfl, rfl⟩)
                    rw [rounds_succ]
                    go_wp2_with (go_at_call 56; refine (inRange _ _ _ _).mono ?_; rintro e w' ⟨rfl, rfl⟩)
                    go_ret
                    exact ⟨by rw [HR.out]; rfl, rfl⟩
                  · obtain ⟨u1, u2⟩ := ne_one s1
                    obtain ⟨u3, u4⟩ := ne_one s2
                    clear e2
                    go_wp2
                    refine wp_loop_rounds 3 ?_
                    rw [rounds_succ]
                    go_wp2_with (go_at_call 56; refine (inRange _ _ _ _).mono ?_; rintro e w' ⟨rfl, rfl⟩)
                    rw [rounds_succ]
                    go_wp2_with (go_at_call 56; refine (inRange _ _ _ _).mono ?_; rintro e w' ⟨rfl, rfl⟩)
                    go_ret
                    exact ⟨by rw [HR.out]; rfl, rfl⟩
              | true =>
                have HR := Lib.hid (HA3.out e2)
                clear HA2 HA3
                rcases half_yes e1 with ⟨rfl, rfl, i1⟩ | ⟨z1, i1, rfl⟩ | ⟨z1, i1, rfl⟩
                all_goals
                  clear e1
                  rcases half_yes e2 with ⟨rfl, rfl, j1⟩ | ⟨y1, j1, rfl⟩ | ⟨y1, j1, rfl⟩
                  all_goals
                    clear e2
                    go_wp2
                    refine wp_loop_rounds 3 ?_
                    rw [rounds_succ]
                    go_wp2_with (go_at_call 56; refine (inRange _ _ _ _).mono ?_; rintro e w' ⟨rfl, rfl⟩)
                    rw [rounds_succ]
                    go_wp2_with (go_at_call 56; refine (inRange _ _ _ _).mono ?_; rintro e w' ⟨rfl, rfl⟩)
                    rw [rounds_succ]
                    go_wp2
                    go_round
                    case rel => exact ⟨k + 1, by omega, by go_num, HR.out⟩
                    case measure => simp [intOf]; omega
          · have HR := Lib.hid (HF6.out fun i hi => HG.out i (by omega))
            clear hbb hbd
            go_wp2
            go_ret
            exact ⟨by rw [HR.out]; rfl, rfl⟩
      · have HE := Lib.hid (HF3.out hqn)
        have e1 : ((q : Int) != (n : Int)) = true := by rw [bne_iff_ne]; omega
        have e2 : ((m : Int) != (n : Int)) = false := by rw [hmn]; simp
        subst hmn
        clear HF1 HF2 HF3 HF4 HF5 hbb hbd hqn
        go_enter Try.func25, Try.ntmps25
        go_wp2
        go_ret
        exact ⟨by rw [HE.out]; rfl, rfl⟩
    · have HE := Lib.hid (HF2.out hmn)
      have e1 : ((m : Int) != (n : Int)) = true := by rw [bne_iff_ne]; omega
      clear HF1 HF2 HF3 HF4 HF5 hbb hbd hmn
      go_enter Try.func25, Try.ntmps25
      go_wp2
      go_ret
      exact ⟨by rw [HE.out]; rfl, rfl⟩

theorem specValid (v : Value) (x : X) (w : World) (B : Nat) (h : ScAt w B v x) (hB : B ≤ w.heap.size) :
    Calls Try.prog 8 #[v] w fun e w' => e = .returned (.bool (okX x)) ∧ Below w.heap.size w w' := by
  obtain ⟨va, vn, vo, rfl, hacc, hn, ho⟩ := h
  obtain ⟨o, ho'⟩ : ∃ o : Obj, o = .cells #[va, vn, vo] 29 := ⟨_, rfl⟩
  have hb : Below w.heap.size w (w.alloc o) := (Below.refl _ _).alloc (Nat.le_refl _) _
  have HP := Lib.hid (specOk x va vn vo w.heap.size (w.alloc o) B ⟨by rw [ho']; exact Kept3.new _ _ _ _ _, hacc.below hb hB, hn.below hb hB, ho.below hb hB⟩)
  have HB := Lib.hid hb
  clear hb hacc hn ho
  go_enter Try.func8, Try.ntmps8
  go_wp2_with fail
  rw [← ho']
  clear ho'
  refine HP.out.mono ?_
  rintro e w' ⟨rfl, rfl⟩
  go_wp2
  go_ret
  exact ⟨rfl, HB.out⟩
end Go.Proofs.Ytiklpejcfdhdkaa.ScrValid
