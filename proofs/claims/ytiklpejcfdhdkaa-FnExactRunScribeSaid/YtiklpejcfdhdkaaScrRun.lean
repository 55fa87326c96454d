
/- What a scribe writes, by the model and by the program.
   Conditions: the scribe is read as XScr's text says; the text is no longer than a Go text can be. -/
import Derived.Test.YtiklpejcfdhdkaaScrImpl
namespace Go.Proofs.Ytiklpejcfdhdkaa.ScrRun
set_option linter.unusedVariables false
set_option linter.unusedSimpArgs false
set_option maxRecDepth 100000
open Go.RowKit Mem Copy Rel Scr Columns ScrValid ScrImpl WordMath Word

def isB (s : ByteArray) (k : Nat) : Bool := s.data.toList.getD k 0 == 98
def nx (x : X) (q : Nat) (b : Bool) : Int := if b then (x.next.getD q ArrI.noD).y else (x.next.getD q ArrI.noD).x
def wx (x : X) (q : Nat) (b : Bool) : ByteArray := if b then (x.out.getD q ArrS.noD).y else (x.out.getD q ArrS.noD).x
/-- Where the scribe is behind the first k letters, and what it has written; none if a letter was refused. -/
def runK (x : X) (s : ByteArray) : Nat → Option (Nat × ByteArray)
  | 0 => some (0, ⟨#[]⟩)
  | k + 1 => match runK x s k with
    | none => none
    | some (q, o) => if nx x q (isB s k) < 0 then none else some ((nx x q (isB s k)).toNat, o ++ wx x q (isB s k))
def endsIn (x : X) : Option (Nat × ByteArray) → ByteArray × Int
  | none => (⟨#[]⟩, 6)
  | some (q, o) => if x.accept.getD q false then (o, 0) else (⟨#[]⟩, 6)
def ans (x : X) (s : ByteArray) : ByteArray × Int := if okX x = true ∧ wordB s = true then endsIn x (runK x s s.size) else (⟨#[]⟩, 1)

theorem runK_stop {x : X} {s : ByteArray} {k : Nat} (h : runK x s k = none) : ∀ m, k ≤ m → runK x s m = none := by
  intro m
  induction m with
  | zero =>
    intro hm
    have e : k = 0 := by omega
    rw [e] at h
    exact h
  | succ m ih =>
    intro hm
    by_cases e : k = m + 1
    · subst e; exact h
    · have := ih (by omega)
      unfold runK; rw [this]
theorem runK_no {x : X} {s : ByteArray} {k q : Nat} {o : ByteArray} {b : Bool} (h : runK x s k = some (q, o)) (hb : isB s k = b) (hn : nx x q b < 0) (hk : k < s.size) : runK x s s.size = none := by
  refine runK_stop (k := k + 1) ?_ _ (by omega)
  unfold runK; rw [h]; simp only [hb]; rw [if_pos hn]
theorem runK_on {x : X} {s : ByteArray} {k q : Nat} {o : ByteArray} {b : Bool} {t : Nat} {u : ByteArray} (h : runK x s k = some (q, o)) (hb : isB s k = b) (hn : nx x q b = (t : Int)) (hw : wx x q b = u) : runK x s (k + 1) = some (t, o ++ u) := by
  unfold runK; rw [h]; simp only [hb, hn, hw]; rw [if_neg (by omega)]; rfl

theorem isB_a {s : ByteArray} {k : Nat} (hk : k < s.size) (h : (s[k].toNat : Int) = 97) : isB s k = false := by
  unfold isB
  have e : s.data.toList.getD k 0 = s[k] := by
    have : k < s.data.toList.length := by simpa using hk
    rw [List.getD, List.getElem?_eq_getElem this]; rfl
  rw [e, beq_eq_false_iff_ne]
  intro e2
  rw [e2] at h
  exact absurd h (by decide)
theorem isB_b {s : ByteArray} {k : Nat} (hk : k < s.size) (h : (s[k].toNat : Int) = 98) : isB s k = true := by
  unfold isB
  have e : s.data.toList.getD k 0 = s[k] := by
    have : k < s.data.toList.length := by simpa using hk
    rw [List.getD, List.getElem?_eq_getElem this]; rfl
  rw [e, beq_iff_eq]
  exact UInt8.toNat_inj.1 (by simpa using (by omega : s[k].toNat = 98))
theorem word_letter {s : ByteArray} (h : wordB s = true) (k : Nat) (hk : k < s.size) : (s[k].toNat : Int) = 97 ∨ (s[k].toNat : Int) = 98 := by
  unfold wordB good at h
  rw [Bool.and_eq_true, List.all_eq_true] at h
  exact letter_or _ (h.1 s[k] (by have : k < s.data.toList.length := by simpa using hk
                                  have e : s[k] = s.data.toList[k] := rfl
                                  rw [e]; exact List.getElem_mem _))
theorem word_short {s : ByteArray} (h : wordB s = true) : s.size ≤ 40 := by
  unfold wordB at h
  rw [Bool.and_eq_true, decide_eq_true_eq] at h
  exact h.2

theorem ok_parts {x : X} (h : okX x = true) : 1 ≤ x.accept.length ∧ x.accept.length ≤ 150 ∧ x.next.length = x.accept.length ∧ x.out.length = x.accept.length ∧
    ∀ i, i < x.accept.length → half x.accept.length (x.next.getD i ArrI.noD).x (x.out.getD i ArrS.noD).x = true ∧ half x.accept.length (x.next.getD i ArrI.noD).y (x.out.getD i ArrS.noD).y = true := by
  unfold okX at h
  simp only [Bool.and_eq_true, decide_eq_true_eq, List.all_eq_true, List.mem_range] at h
  obtain ⟨⟨⟨h1, h2⟩, h3⟩, h4⟩ := h
  unfold inB at h1
  rw [decide_eq_true_eq] at h1
  refine ⟨by omega, by omega, h2, h3, fun i hi => ?_⟩
  have := h4 i hi
  unfold okAt at this
  rwa [Bool.and_eq_true] at this

theorem size_one (o : ByteArray) (c : UInt8) {k : Nat} (h : o.size ≤ k) : (o ++ (⟨#[c]⟩ : ByteArray)).size ≤ k + 1 := by
  have e : (o ++ (⟨#[c]⟩ : ByteArray)).size = o.size + 1 := by rw [ByteArray.size_append]; rfl
  omega

/-- What one letter of one state holds, in a word. -/
inductive Go1 (n : Nat) (a : Int) (s : ByteArray) : Prop where
  | no (h1 : a = -1) (h2 : s = ⟨#[]⟩)
  | a (t : Nat) (h1 : a = (t : Int)) (ht : t < n) (h2 : s = ⟨#[97]⟩)
  | b (t : Nat) (h1 : a = (t : Int)) (ht : t < n) (h2 : s = ⟨#[98]⟩)
theorem go1 {n : Nat} {a : Int} {s : ByteArray} (h : half n a s = true) : Go1 n a s := by
  rcases half_yes h with ⟨h1, h2, -⟩ | ⟨-, h1, h2⟩ | ⟨-, h1, h2⟩
  · exact .no h1 h2
  · unfold inB at h1
    rw [decide_eq_true_eq] at h1
    obtain ⟨t, rfl⟩ := Int.eq_ofNat_of_zero_le h1.1
    exact .a t rfl (by omega) h2
  · unfold inB at h1
    rw [decide_eq_true_eq] at h1
    obtain ⟨t, rfl⟩ := Int.eq_ofNat_of_zero_le h1.1
    exact .b t rfl (by omega) h2

set_option maxHeartbeats 4000000 in
theorem specIn (x : X) (s : ByteArray) (v : Value) (w : World) (B : Nat) (h : ScAt w B v x) (hB : B ≤ w.heap.size) (hs : s.size ≤ maxLen) (hok : okX x = true) (hw : wordB s = true) :
    Calls Try.prog 14 #[v, .string s] w fun e w' => e = .returned (.tuple #[.string (endsIn x (runK x s s.size)).1, .int .i64 (endsIn x (runK x s s.size)).2]) ∧ Below w.heap.size w w' := by
  obtain ⟨hn1, hn2, hm, hq, hall⟩ := ok_parts hok
  obtain ⟨va, vn, vo, rfl, hacc, hn, ho⟩ := h
  have hb0 : Below w.heap.size w (w.alloc (.cells #[va, vn, vo] 29)) := (Below.refl _ _).alloc (Nat.le_refl _) _
  have HP := Lib.hid (specOk x va vn vo w.heap.size _ B ⟨Kept3.new w va vn vo 29, hacc.below hb0 hB, hn.below hb0 hB, ho.below hb0 hB⟩)
  rw [hok] at HP
  have HW := Lib.hid (fun W => specWord s W hs)
  rw [hw] at HW
  have HLET := Lib.hid (word_letter hw)
  have hshort := word_short hw
  have HB0 := Lib.hid hb0
  have hacc := hacc.below hb0 hB
  have hn := hn.below hb0 hB
  have ho := ho.below hb0 hB
  obtain ⟨aa, ba, oa, ca, rfl, hma, haa, hca⟩ := hacc
  obtain ⟨ab, bb, ob, cb, rfl, hmb, hbb, hcb⟩ := hn
  obtain ⟨ad, bd, od, cd, rfl, hmd, hbd, hcd⟩ := ho
  obtain ⟨xa, xn, xo⟩ := x
  simp only at hn1 hn2 hm hq hall hma haa hca hmb hbb hcb hmd hbd hcd HP HB0 ⊢
  obtain ⟨n, hnn⟩ : ∃ n, n = xa.length := ⟨_, rfl⟩
  rw [hm] at hmb hbb hcb HP HB0 hca hcd ⊢
  rw [hq] at hmd hbd hcd HP HB0 hca hcb ⊢
  rw [← hnn] at hn1 hn2 hall hma haa hca hmb hbb hcb hmd hbd hcd HP HB0 ⊢
  obtain rfl := (haa (by omega)).1
  obtain rfl := (hbb (by omega)).1
  obtain rfl := (hbd (by omega)).1
  have HK := Lib.hid (Kept3.new w (.slice (some ⟨ba, oa, none⟩) n ca) (.slice (some ⟨bb, ob, none⟩) n cb) (.slice (some ⟨bd, od, none⟩) n cd) 29)
  have HA := Lib.hid hca
  have HN := Lib.hid hcb
  have HO := Lib.hid hcd
  have HALL := Lib.hid hall
  obtain ⟨W, hWW⟩ : ∃ W, W = w.alloc (.cells #[.slice (some ⟨ba, oa, none⟩) n ca, .slice (some ⟨bb, ob, none⟩) n cb, .slice (some ⟨bd, od, none⟩) n cd] 29) := ⟨_, rfl⟩
  rw [← hWW] at HP HB0 HK HA HN HO
  obtain ⟨E, hE⟩ : ∃ E, E = endsIn ⟨xa, xn, xo⟩ (runK ⟨xa, xn, xo⟩ s s.size) := ⟨_, rfl⟩
  have HE := Lib.hid hE
  rw [← hE]
  clear hca hcb hcd hall haa hbb hbd hm hq hnn hb0 hE
  go_enter Try.func14, Try.ntmps14
  go_wp2_with fail
  rw [← hWW]
  clear hWW
  refine HP.out.mono ?_
  rintro e w1 ⟨rfl, rfl⟩
  obtain ⟨k0, k1, k2, -⟩ := HK.out
  go_wp2_with fail
  refine (HW.out _).mono ?_
  rintro e w1 ⟨rfl, rfl⟩
  clear HP HW
  go_wp2
  go_loop [6, 7, 8] (fun t st i => ∃ (k q : Nat) (o : ByteArray), k ≤ s.size ∧ t = .string o ∧ st = .int .i64 q ∧ i = .int .i64 k ∧ runK ⟨xa, xn, xo⟩ s k = some (q, o) ∧ q < n ∧ o.size ≤ k) (fun _ _ i => s.size - (intOf i).toNat)
  case atStart => exact ⟨0, 0, ⟨#[]⟩, Nat.zero_le _, rfl, rfl, rfl, rfl, by omega, Nat.le_refl _⟩
  case round =>
    obtain ⟨k, q, o, hk, rfl, rfl, rfl, hg, hqn, hosz⟩ := hrel
    have HG := Lib.hid hg
    clear hg
    by_cases hlt : k < s.size
    · have hlet := HLET.out k hlt
      obtain ⟨c0, c1⟩ := (HN.out q hqn).1
      obtain ⟨d0, d1⟩ := (HO.out q hqn).1
      obtain ⟨ha1, ha2⟩ := HALL.out q hqn
      obtain ⟨dn, hdn⟩ : ∃ d, d = xn.getD q ArrI.noD := ⟨_, rfl⟩
      obtain ⟨dw, hdw⟩ : ∃ d, d = xo.getD q ArrS.noD := ⟨_, rfl⟩
      have HX := Lib.hid (show ∀ b, nx ⟨xa, xn, xo⟩ q b = if b then dn.y else dn.x from fun b => by unfold nx; simp only; rw [← hdn])
      have HY := Lib.hid (show ∀ b, wx ⟨xa, xn, xo⟩ q b = if b then dw.y else dw.x from fun b => by unfold wx; simp only; rw [← hdw])
      rw [← hdn] at c0 c1 ha1 ha2
      rw [← hdw] at d0 d1 ha1 ha2
      clear hdn hdw
      obtain ⟨nx0, nx1⟩ := dn
      obtain ⟨wx0, wx1⟩ := dw
      simp only at c0 c1 d0 d1 ha1 ha2 HX HY
      have hsum : o.size + 1 ≤ 9223372036854775807 := by omega
      rcases hlet with hl | hl
      · have HI := Lib.hid (isB_a hlt hl)
        have hsub : IntKind.u8.wrap ((s[k].toNat : Int) - 97) = 0 := by rw [hl]; rfl
        rcases go1 ha1 with ⟨rfl, rfl⟩ | ⟨t, rfl, ht, rfl⟩ | ⟨t, rfl, ht, rfl⟩
        · have HR := Lib.hid (show E = (⟨#[]⟩, 6) by rw [HE.out, runK_no HG.out HI.out (by rw [HX.out]; exact (by decide : (-1 : Int) < 0)) hlt]; rfl)
          clear ha1 ha2 HX HY
          go_wp2
          go_ret2
          exact ⟨by rw [HR.out]; rfl, HB0.out⟩
        · have HR := Lib.hid (runK_on HG.out HI.out (t := t) (u := ⟨#[97]⟩) (by rw [HX.out]; rfl) (by rw [HY.out]; rfl))
          have ht0 : ¬ (t : Int) < 0 := by omega
          clear ha1 ha2 HX HY
          go_wp2
          go_round
          case rel => exact ⟨k + 1, t, _, by omega, rfl, rfl, by go_num, HR.out, ht, size_one o 97 hosz⟩
          case measure => simp [intOf]; omega
        · have HR := Lib.hid (runK_on HG.out HI.out (t := t) (u := ⟨#[98]⟩) (by rw [HX.out]; rfl) (by rw [HY.out]; rfl))
          have ht0 : ¬ (t : Int) < 0 := by omega
          clear ha1 ha2 HX HY
          go_wp2
          go_round
          case rel => exact ⟨k + 1, t, _, by omega, rfl, rfl, by go_num, HR.out, ht, size_one o 98 hosz⟩
          case measure => simp [intOf]; omega
      · have HI := Lib.hid (isB_b hlt hl)
        have hsub : IntKind.u8.wrap ((s[k].toNat : Int) - 97) = 1 := by rw [hl]; rfl
        rcases go1 ha2 with ⟨rfl, rfl⟩ | ⟨t, rfl, ht, rfl⟩ | ⟨t, rfl, ht, rfl⟩
        · have HR := Lib.hid (show E = (⟨#[]⟩, 6) by rw [HE.out, runK_no HG.out HI.out (by rw [HX.out]; exact (by decide : (-1 : Int) < 0)) hlt]; rfl)
          clear ha1 ha2 HX HY
          go_wp2
          go_ret2
          exact ⟨by rw [HR.out]; rfl, HB0.out⟩
        · have HR := Lib.hid (runK_on HG.out HI.out (t := t) (u := ⟨#[97]⟩) (by rw [HX.out]; rfl) (by rw [HY.out]; rfl))
          have ht0 : ¬ (t : Int) < 0 := by omega
          clear ha1 ha2 HX HY
          go_wp2
          go_round
          case rel => exact ⟨k + 1, t, _, by omega, rfl, rfl, by go_num, HR.out, ht, size_one o 97 hosz⟩
          case measure => simp [intOf]; omega
        · have HR := Lib.hid (runK_on HG.out HI.out (t := t) (u := ⟨#[98]⟩) (by rw [HX.out]; rfl) (by rw [HY.out]; rfl))
          have ht0 : ¬ (t : Int) < 0 := by omega
          clear ha1 ha2 HX HY
          go_wp2
          go_round
          case rel => exact ⟨k + 1, t, _, by omega, rfl, rfl, by go_num, HR.out, ht, size_one o 98 hosz⟩
          case measure => simp [intOf]; omega
    · obtain rfl : k = s.size := by omega
      have hc := HA.out q hqn
      have HXA := Lib.hid (show E = if xa.getD q false then (o, 0) else (⟨#[]⟩, 6) by rw [HE.out, HG.out]; rfl)
      cases hb : xa.getD q false with
      | true =>
        rw [hb] at hc HXA
        go_wp2
        go_ret2
        exact ⟨by rw [HXA.out]; rfl, HB0.out⟩
      | false =>
        rw [hb] at hc HXA
        go_wp2
        go_ret2
        exact ⟨by rw [HXA.out]; rfl, HB0.out⟩

theorem digitA (w : World) : Calls Try.prog 39 #[.int .u8 97] w fun e w' => e = .returned (.int .i64 0) ∧ w = w' := by
  go_enter Try.func39, Try.ntmps39
  go_wp2
  go_ret
  exact ⟨rfl, rfl⟩
theorem digitB (w : World) : Calls Try.prog 39 #[.int .u8 98] w fun e w' => e = .returned (.int .i64 1) ∧ w = w' := by
  go_enter Try.func39, Try.ntmps39
  go_wp2
  go_ret
  exact ⟨rfl, rfl⟩

set_option maxHeartbeats 4000000 in
theorem implIn (x : X) (s : ByteArray) (v : Value) (w : World) (B : Nat) (h : ScAt w B v x) (hB : B ≤ w.heap.size) (hs : s.size ≤ maxLen) (hok : okX x = true) (hw : wordB s = true) :
    Calls Try.prog 15 #[v, .string s] w fun e w' => e = .returned (.tuple #[.string (endsIn x (runK x s s.size)).1, .int .i64 (endsIn x (runK x s s.size)).2]) ∧ Below w.heap.size w w' := by
  obtain ⟨hn1, hn2, hm, hq, hall⟩ := ok_parts hok
  obtain ⟨va, vn, vo, rfl, hacc, hn, ho⟩ := h
  have hb0 : Below w.heap.size w (w.alloc (.cells #[va, vn, vo] 29)) := (Below.refl _ _).alloc (Nat.le_refl _) _
  have HP := Lib.hid (implValid _ x (w.alloc (.cells #[va, vn, vo] 29)) B (ScAt.below ⟨va, vn, vo, rfl, hacc, hn, ho⟩ hb0 hB) (Nat.le_trans hB hb0.size))
  rw [hok] at HP
  have HW := Lib.hid (fun W => implWord s W hs)
  rw [hw] at HW
  have HLET := Lib.hid (word_letter hw)
  have hshort := word_short hw
  have HB0 := Lib.hid hb0
  have hacc := hacc.below hb0 hB
  have hn := hn.below hb0 hB
  have ho := ho.below hb0 hB
  obtain ⟨aa, ba, oa, ca, rfl, hma, haa, hca⟩ := hacc
  obtain ⟨ab, bb, ob, cb, rfl, hmb, hbb, hcb⟩ := hn
  obtain ⟨ad, bd, od, cd, rfl, hmd, hbd, hcd⟩ := ho
  obtain ⟨xa, xn, xo⟩ := x
  simp only at hn1 hn2 hm hq hall hma haa hca hmb hbb hcb hmd hbd hcd HP HB0 ⊢
  obtain ⟨n, hnn⟩ : ∃ n, n = xa.length := ⟨_, rfl⟩
  rw [hm] at hmb hbb hcb HP HB0 hca hcd ⊢
  rw [hq] at hmd hbd hcd HP HB0 hca hcb ⊢
  rw [← hnn] at hn1 hn2 hall hma haa hca hmb hbb hcb hmd hbd hcd HP HB0 ⊢
  have HBBW := Lib.hid (show bb < (w.alloc (.cells #[.slice aa n ca, .slice ab n cb, .slice ad n cd] 29)).heap.size ∧ bd < (w.alloc (.cells #[.slice aa n ca, .slice ab n cb, .slice ad n cd] 29)).heap.size ∧ ba < (w.alloc (.cells #[.slice aa n ca, .slice ab n cb, .slice ad n cd] 29)).heap.size by
    rw [World.size_alloc]
    have h1 := (haa (by omega)).2
    have h2 := (hbb (by omega)).2
    have h3 := (hbd (by omega)).2
    exact ⟨by omega, by omega, by omega⟩)
  obtain rfl := (haa (by omega)).1
  obtain rfl := (hbb (by omega)).1
  obtain rfl := (hbd (by omega)).1
  have HK := Lib.hid (Kept3.new w (.slice (some ⟨ba, oa, none⟩) n ca) (.slice (some ⟨bb, ob, none⟩) n cb) (.slice (some ⟨bd, od, none⟩) n cd) 29)
  have HA := Lib.hid hca
  have HN := Lib.hid hcb
  have HO := Lib.hid hcd
  have HALL := Lib.hid hall
  obtain ⟨W, hWW⟩ : ∃ W, W = w.alloc (.cells #[.slice (some ⟨ba, oa, none⟩) n ca, .slice (some ⟨bb, ob, none⟩) n cb, .slice (some ⟨bd, od, none⟩) n cd] 29) := ⟨_, rfl⟩
  rw [← hWW] at HP HB0 HK HA HN HO HBBW
  obtain ⟨E, hE⟩ : ∃ E, E = endsIn ⟨xa, xn, xo⟩ (runK ⟨xa, xn, xo⟩ s s.size) := ⟨_, rfl⟩
  have HE := Lib.hid hE
  rw [← hE]
  clear hca hcb hcd hall haa hbb hbd hm hq hnn hb0 hE
  go_enter Try.func15, Try.ntmps15
  go_wp2_with fail
  rw [← hWW]
  clear hWW
  obtain ⟨k0, k1, k2, -⟩ := HK.out
  go_wp2_with fail
  refine HP.out.mono ?_
  rintro e w1 ⟨rfl, hb⟩
  clear k0 k1 k2
  have HB1 := Lib.hid (base_step HB0.out hb)
  have HBW := Lib.hid hb
  have HK1 := Lib.hid (HK.out.step hb)
  clear hb HB0 HK HP
  obtain ⟨k0, k1, k2, -⟩ := HK1.out
  go_wp2_with fail
  refine (HW.out _).mono ?_
  rintro e w2 ⟨rfl, rfl⟩
  clear HW
  go_wp2
  go_loop [6, 7, 20] (fun st t i => ∃ (k q : Nat) (o : ByteArray), k ≤ s.size ∧ t = .string o ∧ st = .int .i64 q ∧ i = .int .i64 k ∧ runK ⟨xa, xn, xo⟩ s k = some (q, o) ∧ q < n ∧ o.size ≤ k) (fun _ _ i => s.size - (intOf i).toNat)
  case atStart => exact ⟨0, 0, ⟨#[]⟩, Nat.zero_le _, rfl, rfl, rfl, rfl, by omega, Nat.le_refl _⟩
  case round =>
    obtain ⟨k, q, o, hk, rfl, rfl, rfl, hg, hqn, hosz⟩ := hrel
    have HG := Lib.hid hg
    clear hg
    by_cases hlt : k < s.size
    · have hlet := HLET.out k hlt
      obtain ⟨c0, c1⟩ := ((HN.out q hqn).1).below HBW.out (HBBW.out.1)
      obtain ⟨d0, d1⟩ := ((HO.out q hqn).1).below HBW.out (HBBW.out.2.1)
      obtain ⟨ha1, ha2⟩ := HALL.out q hqn
      obtain ⟨dn, hdn⟩ : ∃ d, d = xn.getD q ArrI.noD := ⟨_, rfl⟩
      obtain ⟨dw, hdw⟩ : ∃ d, d = xo.getD q ArrS.noD := ⟨_, rfl⟩
      have HX := Lib.hid (show ∀ b, nx ⟨xa, xn, xo⟩ q b = if b then dn.y else dn.x from fun b => by unfold nx; simp only; rw [← hdn])
      have HY := Lib.hid (show ∀ b, wx ⟨xa, xn, xo⟩ q b = if b then dw.y else dw.x from fun b => by unfold wx; simp only; rw [← hdw])
      rw [← hdn] at c0 c1 ha1 ha2
      rw [← hdw] at d0 d1 ha1 ha2
      clear hdn hdw
      obtain ⟨nx0, nx1⟩ := dn
      obtain ⟨wx0, wx1⟩ := dw
      simp only at c0 c1 d0 d1 ha1 ha2 HX HY
      have hsum : o.size + 1 ≤ 9223372036854775807 := by omega
      rcases hlet with hl | hl
      · have HI := Lib.hid (isB_a hlt hl)
        have hsub : IntKind.u8.wrap ((s[k].toNat : Int) - 97) = 0 := by rw [hl]; rfl
        rcases go1 ha1 with ⟨rfl, rfl⟩ | ⟨t, rfl, ht, rfl⟩ | ⟨t, rfl, ht, rfl⟩
        · have HR := Lib.hid (show E = (⟨#[]⟩, 6) by rw [HE.out, runK_no HG.out HI.out (by rw [HX.out]; exact (by decide : (-1 : Int) < 0)) hlt]; rfl)
          clear ha1 ha2 HX HY
          go_wp2_with (go_at_call 39; first | (refine (digitA _).mono ?_; rintro e w' ⟨rfl, rfl⟩) | (refine (digitB _).mono ?_; rintro e w' ⟨rfl, rfl⟩))
          go_ret2
          exact ⟨by rw [HR.out]; rfl, HB1.out⟩
        · have HR := Lib.hid (runK_on HG.out HI.out (t := t) (u := ⟨#[97]⟩) (by rw [HX.out]; rfl) (by rw [HY.out]; rfl))
          have ht0 : ¬ (t : Int) < 0 := by omega
          clear ha1 ha2 HX HY
          go_wp2_with (go_at_call 39; first | (refine (digitA _).mono ?_; rintro e w' ⟨rfl, rfl⟩) | (refine (digitB _).mono ?_; rintro e w' ⟨rfl, rfl⟩))
          go_round
          case rel => exact ⟨k + 1, t, _, by omega, rfl, rfl, by go_num, HR.out, ht, size_one o 97 hosz⟩
          case measure => simp [intOf]; omega
        · have HR := Lib.hid (runK_on HG.out HI.out (t := t) (u := ⟨#[98]⟩) (by rw [HX.out]; rfl) (by rw [HY.out]; rfl))
          have ht0 : ¬ (t : Int) < 0 := by omega
          clear ha1 ha2 HX HY
          go_wp2_with (go_at_call 39; first | (refine (digitA _).mono ?_; rintro e w' ⟨rfl, rfl⟩) | (refine (digitB _).mono ?_; rintro e w' ⟨rfl, rfl⟩))
          go_round
          case rel => exact ⟨k + 1, t, _, by omega, rfl, rfl, by go_num, HR.out, ht, size_one o 98 hosz⟩
          case measure => simp [intOf]; omega
      · have HI := Lib.hid (isB_b hlt hl)
        have hsub : IntKind.u8.wrap ((s[k].toNat : Int) - 97) = 1 := by rw [hl]; rfl
        rcases go1 ha2 with ⟨rfl, rfl⟩ | ⟨t, rfl, ht, rfl⟩ | ⟨t, rfl, ht, rfl⟩
        · have HR := Lib.hid (show E = (⟨#[]⟩, 6) by rw [HE.out, runK_no HG.out HI.out (by rw [HX.out]; exact (by decide : (-1 : Int) < 0)) hlt]; rfl)
          clear ha1 ha2 HX HY
          go_wp2_with (go_at_call 39; first | (refine (digitA _).mono ?_; rintro e w' ⟨rfl, rfl⟩) | (refine (digitB _).mono ?_; rintro e w' ⟨rfl, rfl⟩))
          go_ret2
          exact ⟨by rw [HR.out]; rfl, HB1.out⟩
        · have HR := Lib.hid (runK_on HG.out HI.out (t := t) (u := ⟨#[97]⟩) (by rw [HX.out]; rfl) (by rw [HY.out]; rfl))
          have ht0 : ¬ (t : Int) < 0 := by omega
          clear ha1 ha2 HX HY
          go_wp2_with (go_at_call 39; first | (refine (digitA _).mono ?_; rintro e w' ⟨rfl, rfl⟩) | (refine (digitB _).mono ?_; rintro e w' ⟨rfl, rfl⟩))
          go_round
          case rel => exact ⟨k + 1, t, _, by omega, rfl, rfl, by go_num, HR.out, ht, size_one o 97 hosz⟩
          case measure => simp [intOf]; omega
        · have HR := Lib.hid (runK_on HG.out HI.out (t := t) (u := ⟨#[98]⟩) (by rw [HX.out]; rfl) (by rw [HY.out]; rfl))
          have ht0 : ¬ (t : Int) < 0 := by omega
          clear ha1 ha2 HX HY
          go_wp2_with (go_at_call 39; first | (refine (digitA _).mono ?_; rintro e w' ⟨rfl, rfl⟩) | (refine (digitB _).mono ?_; rintro e w' ⟨rfl, rfl⟩))
          go_round
          case rel => exact ⟨k + 1, t, _, by omega, rfl, rfl, by go_num, HR.out, ht, size_one o 98 hosz⟩
          case measure => simp [intOf]; omega
    · obtain rfl : k = s.size := by omega
      have hc := (HBW.out.cell (p := ⟨ba, oa + q, none⟩) (HBBW.out.2.2)).trans (HA.out q hqn)
      have HXA := Lib.hid (show E = if xa.getD q false then (o, 0) else (⟨#[]⟩, 6) by rw [HE.out, HG.out]; rfl)
      cases hb : xa.getD q false with
      | true =>
        rw [hb] at hc HXA
        go_wp2
        go_ret2
        exact ⟨by rw [HXA.out]; rfl, HB1.out⟩
      | false =>
        rw [hb] at hc HXA
        go_wp2
        go_ret2
        exact ⟨by rw [HXA.out]; rfl, HB1.out⟩

set_option maxHeartbeats 1000000 in
theorem specNo1 (x : X) (s : ByteArray) (v : Value) (w : World) (B : Nat) (h : ScAt w B v x) (hB : B ≤ w.heap.size) (hok : okX x = false) :
    Calls Try.prog 14 #[v, .string s] w fun e w' => e = .returned (.tuple #[.string ⟨#[]⟩, .int .i64 1]) ∧ Below w.heap.size w w' := by
  obtain ⟨va, vn, vo, rfl, hacc, hn, ho⟩ := h
  have hb0 : Below w.heap.size w (w.alloc (.cells #[va, vn, vo] 29)) := (Below.refl _ _).alloc (Nat.le_refl _) _
  have HP := Lib.hid (specOk x va vn vo w.heap.size _ B ⟨Kept3.new w va vn vo 29, hacc.below hb0 hB, hn.below hb0 hB, ho.below hb0 hB⟩)
  rw [hok] at HP
  have HB0 := Lib.hid hb0
  have HK := Lib.hid (Kept3.new w va vn vo 29)
  obtain ⟨k0, k1, k2, -⟩ := HK.out
  clear hb0 hacc hn ho hok
  go_enter Try.func14, Try.ntmps14
  go_wp2_with fail
  refine HP.out.mono ?_
  rintro e w1 ⟨rfl, rfl⟩
  go_wp2
  go_ret2
  exact ⟨rfl, HB0.out⟩

set_option maxHeartbeats 1000000 in
theorem specNo2 (x : X) (s : ByteArray) (v : Value) (w : World) (B : Nat) (h : ScAt w B v x) (hB : B ≤ w.heap.size) (hs : s.size ≤ maxLen) (hok : okX x = true) (hw : wordB s = false) :
    Calls Try.prog 14 #[v, .string s] w fun e w' => e = .returned (.tuple #[.string ⟨#[]⟩, .int .i64 1]) ∧ Below w.heap.size w w' := by
  obtain ⟨va, vn, vo, rfl, hacc, hn, ho⟩ := h
  have hb0 : Below w.heap.size w (w.alloc (.cells #[va, vn, vo] 29)) := (Below.refl _ _).alloc (Nat.le_refl _) _
  have HP := Lib.hid (specOk x va vn vo w.heap.size _ B ⟨Kept3.new w va vn vo 29, hacc.below hb0 hB, hn.below hb0 hB, ho.below hb0 hB⟩)
  rw [hok] at HP
  have HW := Lib.hid (fun W => specWord s W hs)
  rw [hw] at HW
  have HB0 := Lib.hid hb0
  have HK := Lib.hid (Kept3.new w va vn vo 29)
  obtain ⟨k0, k1, k2, -⟩ := HK.out
  clear hb0 hacc hn ho hok hs hw
  go_enter Try.func14, Try.ntmps14
  go_wp2_with fail
  refine HP.out.mono ?_
  rintro e w1 ⟨rfl, rfl⟩
  go_wp2_with fail
  refine (HW.out _).mono ?_
  rintro e w2 ⟨rfl, rfl⟩
  go_wp2
  go_ret2
  exact ⟨rfl, HB0.out⟩

theorem specAns (x : X) (s : ByteArray) (v : Value) (w : World) (B : Nat) (h : ScAt w B v x) (hB : B ≤ w.heap.size) (hs : s.size ≤ maxLen) :
    Calls Try.prog 14 #[v, .string s] w fun e w' => e = .returned (.tuple #[.string (ans x s).1, .int .i64 (ans x s).2]) ∧ Below w.heap.size w w' := by
  unfold ans
  cases hok : okX x with
  | false => rw [if_neg (by simp)]; exact specNo1 x s v w B h hB hok
  | true =>
    cases hw : wordB s with
    | false => rw [if_neg (by simp)]; exact specNo2 x s v w B h hB hs hok hw
    | true => rw [if_pos ⟨rfl, rfl⟩]; exact specIn x s v w B h hB hs hok hw

set_option maxHeartbeats 1000000 in
theorem implNo1 (x : X) (s : ByteArray) (v : Value) (w : World) (B : Nat) (h : ScAt w B v x) (hB : B ≤ w.heap.size) (hok : okX x = false) :
    Calls Try.prog 15 #[v, .string s] w fun e w' => e = .returned (.tuple #[.string ⟨#[]⟩, .int .i64 1]) ∧ Below w.heap.size w w' := by
  obtain ⟨va, vn, vo, rfl, hacc, hn, ho⟩ := h
  have hb0 : Below w.heap.size w (w.alloc (.cells #[va, vn, vo] 29)) := (Below.refl _ _).alloc (Nat.le_refl _) _
  have HP := Lib.hid (implValid _ x (w.alloc (.cells #[va, vn, vo] 29)) B (ScAt.below ⟨va, vn, vo, rfl, hacc, hn, ho⟩ hb0 hB) (Nat.le_trans hB hb0.size))
  rw [hok] at HP
  have HB0 := Lib.hid hb0
  have HK := Lib.hid (Kept3.new w va vn vo 29)
  obtain ⟨k0, k1, k2, -⟩ := HK.out
  clear hb0 hacc hn ho hok
  go_enter Try.func15, Try.ntmps15
  go_wp2_with fail
  refine HP.out.mono ?_
  rintro e w1 ⟨rfl, hb⟩
  have HB1 := Lib.hid (base_step HB0.out hb)
  clear hb k0 k1 k2
  go_wp2
  go_ret2
  exact ⟨rfl, HB1.out⟩

set_option maxHeartbeats 1000000 in
theorem implNo2 (x : X) (s : ByteArray) (v : Value) (w : World) (B : Nat) (h : ScAt w B v x) (hB : B ≤ w.heap.size) (hs : s.size ≤ maxLen) (hok : okX x = true) (hw : wordB s = false) :
    Calls Try.prog 15 #[v, .string s] w fun e w' => e = .returned (.tuple #[.string ⟨#[]⟩, .int .i64 1]) ∧ Below w.heap.size w w' := by
  obtain ⟨va, vn, vo, rfl, hacc, hn, ho⟩ := h
  have hb0 : Below w.heap.size w (w.alloc (.cells #[va, vn, vo] 29)) := (Below.refl _ _).alloc (Nat.le_refl _) _
  have HP := Lib.hid (implValid _ x (w.alloc (.cells #[va, vn, vo] 29)) B (ScAt.below ⟨va, vn, vo, rfl, hacc, hn, ho⟩ hb0 hB) (Nat.le_trans hB hb0.size))
  rw [hok] at HP
  have HW := Lib.hid (fun W => implWord s W hs)
  rw [hw] at HW
  have HB0 := Lib.hid hb0
  have HK := Lib.hid (Kept3.new w va vn vo 29)
  obtain ⟨k0, k1, k2, -⟩ := HK.out
  clear hb0 hacc hn ho hok hs hw
  go_enter Try.func15, Try.ntmps15
  go_wp2_with fail
  refine HP.out.mono ?_
  rintro e w1 ⟨rfl, hb⟩
  have HB1 := Lib.hid (base_step HB0.out hb)
  clear hb k0 k1 k2
  go_wp2_with fail
  refine (HW.out _).mono ?_
  rintro e w2 ⟨rfl, rfl⟩
  go_wp2
  go_ret2
  exact ⟨rfl, HB1.out⟩

theorem implAns (x : X) (s : ByteArray) (v : Value) (w : World) (B : Nat) (h : ScAt w B v x) (hB : B ≤ w.heap.size) (hs : s.size ≤ maxLen) :
    Calls Try.prog 15 #[v, .string s] w fun e w' => e = .returned (.tuple #[.string (ans x s).1, .int .i64 (ans x s).2]) ∧ Below w.heap.size w w' := by
  unfold ans
  cases hok : okX x with
  | false => rw [if_neg (by simp)]; exact implNo1 x s v w B h hB hok
  | true =>
    cases hw : wordB s with
    | false => rw [if_neg (by simp)]; exact implNo2 x s v w B h hB hs hok hw
    | true => rw [if_pos ⟨rfl, rfl⟩]; exact implIn x s v w B h hB hs hok hw
end Go.Proofs.Ytiklpejcfdhdkaa.ScrRun
