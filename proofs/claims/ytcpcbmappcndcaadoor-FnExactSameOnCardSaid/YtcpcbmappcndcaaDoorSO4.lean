
/- What the model's SameOn answers: a relation in memory of its own, and a code.
   Conditions: the relation is read as XRel's text says. -/
import Derived.Test.YtcpcbmappcndcaaDoorSO2
import Derived.Test.YtcpcbmappcndcaaDoorSO3
import Derived.Test.YtcpcbmappcndcaaDoorFX22
import Derived.Test.YtcpcbmappcndcaaDoorFX27
import Derived.Test.YtcpcbmappcndcaaDoorFX28
import Derived.Test.YtcpcbmappcndcaaDoorFX10
import Derived.IntWalk
namespace Go.Proofs.YtcpcbmappcndcaaDoor.SameS
set_option linter.unusedVariables false
set_option linter.unusedSimpArgs false
set_option linter.ambiguousOpen false
set_option maxRecDepth 100000
open Go.RowKit Mem Copy Rel Valid Heap Bld Columns ColMath TidyMath TidyAuto TidyRight SpecFiner SpecRight ToL SpecTidyRel PairMath SameMath OppImpl StepI TapeFn ImplRight ImplTidied SameFn PutS ToldI Push
attribute [local go_sem ↓] Go.wp_at_zero Go.wp_at_succ

def oneC (r : R) (x : Int) : Int := if okB r = true then (if 0 ≤ x ∧ x ≤ r.tapes - 1 then 0 else 2) else 1
set_option maxHeartbeats 8000000 in
theorem oneS (r : R) (x : Int) (bp : Nat) (w : World) (B : Nat) (h : RelPtr w B bp r) :
    Calls Tryd.prog 42 #[.pointer (some ⟨bp, 0, none⟩), .int .i64 x] w fun e w' => e = .returned (.int .i64 (oneC r x)) ∧ ∃ m, w' = w.drewN m := by
  have HV := Lib.hid (specOk r bp w B h)
  have HE0 := Lib.hid (show okB r = false → oneC r x = 1 from fun h => by simp [oneC, h])
  have HE1 := Lib.hid (show okB r = true → oneC r x = if 0 ≤ x ∧ x ≤ r.tapes - 1 then 0 else 2 from fun h => by unfold oneC; rw [if_pos h])
  have HKK := Lib.hid (show okB r = true → 1 ≤ r.tapes ∧ r.tapes ≤ 3 from fun h => RestS.tapes_of h)
  obtain ⟨va, vn, c0, -, -, -, -, -⟩ := h
  obtain ⟨C, hC⟩ : ∃ y, y = oneC r x := ⟨_, rfl⟩
  obtain ⟨q, hq⟩ : ∃ y, y = okB r := ⟨_, rfl⟩
  rw [← hC, ← hq] at HE0 HE1
  rw [← hq] at HV HKK
  rw [← hC]
  obtain ⟨k, hk⟩ : ∃ k : Int, k = r.tapes := ⟨_, rfl⟩
  rw [← hk] at c0 HE1 HKK
  clear hC hq hk
  go_enter Tryd.func42, Tryd.ntmps42
  go_wp2_with fail
  refine HV.out.mono ?_
  rintro e w' ⟨rfl, m, rfl⟩
  cases q with
  | false =>
    obtain rfl := HE0.out rfl
    go_wp2_with fail
    go_ret
    exact ⟨rfl, _, rfl⟩
  | true =>
    obtain ⟨k1, k3⟩ := HKK.out rfl
    have hD2 := HE1.out rfl
    have hwr : IntKind.i64.wrap (k - 1) = k - 1 := by rw [IntKind.wrap_i64]; omega
    by_cases hr : 0 ≤ x ∧ x ≤ k - 1
    · rw [if_pos hr] at hD2
      subst hD2
      have hin : inB x 0 (k - 1) = true := by simp [inB, hr]
      clear hr HE0 HE1
      go_wp2_with (go_at_call 43; refine (inRange _ _ _ _).mono ?_; rintro e w' ⟨rfl, rfl⟩)
      go_ret
      exact ⟨rfl, _, rfl⟩
    · rw [if_neg hr] at hD2
      subst hD2
      have hin : inB x 0 (k - 1) = false := by simp [inB]; omega
      clear hr HE0 HE1
      go_wp2_with (go_at_call 43; refine (inRange _ _ _ _).mono ?_; rintro e w' ⟨rfl, rfl⟩)
      go_ret
      exact ⟨rfl, _, rfl⟩

/-- What a row holds behind c columns, and in the next one behind s rows. -/
def F (l : L) (a b c s i q : Nat) : Nat := if q < c ∨ (q = c ∧ i < s) then exN l a b i q else (l.nx.getD i []).getD q 0
def ct (l : L) (a b m c s i : Nat) : List Value := tv m fun q => ((F l a b c s i q : Nat) : Int)
theorem ct_len (l : L) (a b m c s i : Nat) : (ct l a b m c s i).length = m := by unfold ct; rw [tv_length]
theorem ct_step (l : L) (a b m c s : Nat) (hs : s < l.acc.length) (ho : offB a b c = true) : (ct l a b m c s s).set c (.int .i64 (l.acc.length : Nat)) = ct l a b m c (s + 1) s := by
  unfold ct
  rw [tv_set]
  refine tv_congr fun q hq => ?_
  unfold F
  by_cases h : q = c
  · subst h
    rw [if_pos rfl, if_pos (.inr ⟨rfl, Nat.lt_succ_self _⟩)]
    unfold exN
    rw [if_pos hs, if_pos ho]
  · rw [if_neg h]
    by_cases h2 : q < c
    · rw [if_pos (.inl h2), if_pos (.inl h2)]
    · rw [if_neg (by omega), if_neg (by omega)]
theorem ct_keep (l : L) (a b m c s : Nat) (hs : s < l.acc.length) (ho : offB a b c = false) : ct l a b m c s s = ct l a b m c (s + 1) s := by
  unfold ct
  refine tv_congr fun q hq => ?_
  unfold F
  by_cases h : q = c
  · subst h
    rw [if_neg (by omega), if_pos (.inr ⟨rfl, Nat.lt_succ_self _⟩)]
    unfold exN
    rw [if_pos hs, if_neg (by rw [ho]; simp)]
  · by_cases h2 : q < c
    · rw [if_pos (.inl h2), if_pos (.inl h2)]
    · rw [if_neg (by omega), if_neg (by omega)]
theorem ct_other (l : L) (a b m c s : Nat) {i : Nat} (hi : i ≠ s) : ct l a b m c s i = ct l a b m c (s + 1) i := by
  unfold ct
  refine tv_congr fun q hq => ?_
  unfold F
  by_cases h2 : q < c ∨ (q = c ∧ i < s)
  · rw [if_pos h2, if_pos (by omega)]
  · rw [if_neg h2, if_neg (by omega)]
theorem ct_next (l : L) (a b m c n : Nat) {i : Nat} (hi : i < n) : ct l a b m c n i = ct l a b m (c + 1) 0 i := by
  unfold ct
  refine tv_congr fun q hq => ?_
  unfold F
  by_cases h2 : q < c ∨ (q = c ∧ i < n)
  · rw [if_pos h2, if_pos (by omega)]
  · rw [if_neg h2, if_neg (by omega)]
theorem ct_zero (l : L) (a b m i : Nat) (hl : (l.nx.getD i []).length = m) : ct l a b m 0 0 i = (ofN (l.nx.getD i [])).map (Value.int .i64) := by
  have e : (fun q => ((F l a b 0 0 i q : Nat) : Int)) = fun q => (((l.nx.getD i []).getD q 0 : Nat) : Int) := funext fun q => by unfold F; rw [if_neg (by omega)]
  unfold ct
  rw [e]
  generalize l.nx.getD i [] = row at hl ⊢
  subst hl
  unfold tv ofN
  rw [List.map_map]
  refine List.ext_getElem (by simp) fun q h1 h2 => ?_
  have hq : q < row.length := by simpa using h1
  simp [List.getD, hq]
theorem ct_full (l : L) (a b m i : Nat) : ct l a b m m 0 i = tv m fun q => ((exN l a b i q : Nat) : Int) := by
  unfold ct
  refine tv_congr fun q hq => ?_
  unfold F
  rw [if_pos (.inl hq)]
theorem set_range (n s : Nat) (f g : Nat → List Value) (z : List Value) (hs : s < n) (hz : z = g s) (ho : ∀ i, i ≠ s → f i = g i) : ((List.range n).map f).set s z = (List.range n).map g := by
  refine List.ext_getElem (by simp) fun i h1 h2 => ?_
  have hi : i < n := by simpa using h2
  rw [List.getElem_set]
  by_cases h : s = i
  · subst h; rw [if_pos rfl, hz]; simp
  · rw [if_neg h]; simp [ho i (fun e => h e.symm)]
theorem relE (l : L) (a b : Nat) : relOf (exL l a b) = ⟨(l.k : Nat), (l.start : Nat), l.acc ++ [false], (List.range (l.acc.length + 1)).map fun s => (List.range (wide l.k)).map fun c => ((exN l a b s c : Nat) : Int)⟩ := by
  have e : (exL l a b).nx.map ofN = (List.range (l.acc.length + 1)).map fun s => (List.range (wide l.k)).map fun c => ((exN l a b s c : Nat) : Int) := by
    unfold exL
    rw [List.map_map]
    refine List.map_congr_left fun x _ => ?_
    show ofN (List.map _ _) = _
    unfold ofN
    rw [List.map_map]
    rfl
  unfold relOf
  rw [e]
  rfl

set_option maxHeartbeats 16000000 in
theorem specSame (v : Value) (r : R) (x y : Int) (w : World) (B : Nat) (h : RelAt w B v r) (hB : B ≤ w.heap.size) :
    Calls Tryd.prog 15 #[v, .int .i64 x, .int .i64 y] w fun e w' => ∃ va vn, e = .returned (.tuple #[.agg #[.int .i64 (ansK (sameC r x y) (sameX r x y)), .int .i64 0, va, vn], .int .i64 (ansC (sameC r x y) (sameX r x y))]) ∧ Built w' w.heap.size va vn (ansA (sameC r x y) (sameX r x y)) (ansN (sameC r x y) (sameX r x y)) ∧ Below w.heap.size w w' := by
  have hR := h
  have HV := Lib.hid (fun W bp (hp : RelPtr W W.heap.size bp r) => oneS r x bp W W.heap.size hp)
  have HE1 := Lib.hid (show oneC r x ≠ 0 → sameC r x y = oneC r x from fun h => by
    unfold oneC at h ⊢
    unfold sameC
    by_cases hok : okB r = true
    · rw [if_pos hok] at h ⊢
      rw [if_pos hok]
      by_cases hx : 0 ≤ x ∧ x ≤ r.tapes - 1
      · rw [if_pos hx] at h; exact absurd rfl h
      · rw [if_neg hx, if_neg (fun hh => hx (by omega))]
    · rw [if_neg hok, if_neg hok])
  have HE2 := Lib.hid (show oneC r x = 0 → okB r = true ∧ 0 ≤ x ∧ x ≤ r.tapes - 1 from fun h => by
    unfold oneC at h
    by_cases hok : okB r = true
    · rw [if_pos hok] at h
      by_cases hx : 0 ≤ x ∧ x ≤ r.tapes - 1
      · exact ⟨hok, hx⟩
      · rw [if_neg hx] at h; omega
    · rw [if_neg hok] at h; omega)
  have HE3 := Lib.hid (show okB r = true → sameC r x y = if (0 ≤ x ∧ x < r.tapes) ∧ (0 ≤ y ∧ y < r.tapes) ∧ x ≠ y then 0 else 2 from fun h => by unfold sameC; rw [if_pos h])
  have HN0 := Lib.hid (fun (h0 : sameC r x y ≠ 0) => ans_no (sameX r x y) h0)
  have HC0 := Lib.hid (fun (h0 : sameC r x y = 0) => ans_yes (sameX r x y) h0)
  have HKK := Lib.hid (show okB r = true → 1 ≤ r.tapes ∧ r.tapes ≤ 3 from fun h => RestS.tapes_of h)
  obtain ⟨X, hX⟩ : ∃ z, z = sameX r x y := ⟨_, rfl⟩
  obtain ⟨C0, hC0⟩ : ∃ z, z = sameC r x y := ⟨_, rfl⟩
  obtain ⟨O0, hO0⟩ : ∃ z, z = oneC r x := ⟨_, rfl⟩
  rw [← hX, ← hC0] at HN0 HC0
  rw [← hC0, ← hO0] at HE1
  rw [← hO0] at HE2 HV
  rw [← hC0] at HE3
  rw [← hX, ← hC0]
  have HXX := Lib.hid hX
  obtain ⟨cC, hcC⟩ : ∃ z, z = ansC C0 X := ⟨_, rfl⟩
  obtain ⟨cK, hcK⟩ : ∃ z, z = ansK C0 X := ⟨_, rfl⟩
  obtain ⟨cA, hcA⟩ : ∃ z, z = ansA C0 X := ⟨_, rfl⟩
  obtain ⟨cN, hcN⟩ : ∃ z, z = ansN C0 X := ⟨_, rfl⟩
  rw [← hcC, ← hcK, ← hcA, ← hcN] at HN0 HC0 ⊢
  clear hX hC0 hO0 hcC hcK hcA hcN
  obtain ⟨va, vn, rfl, ha, hx⟩ := h
  have HPTR := Lib.hid (fun W (hW : K0 w #[.int .i64 r.tapes, .int .i64 r.start, va, vn] W) => box_ptr hR hB (K0.base hW) (K0.box hW))
  obtain ⟨aa, ba, oa, ca, rfl, -, -, -⟩ := ha
  obtain ⟨-, ⟨ab, bb, ob, cb, rfl, -, -, -⟩, -⟩ := hx
  obtain ⟨k, hk⟩ : ∃ k : Int, k = r.tapes := ⟨_, rfl⟩
  obtain ⟨st, hs⟩ : ∃ st : Int, st = r.start := ⟨_, rfl⟩
  obtain ⟨na, hna⟩ : ∃ na, na = r.accept.length := ⟨_, rfl⟩
  obtain ⟨nb, hnb⟩ : ∃ nb, nb = r.next.length := ⟨_, rfl⟩
  rw [← hk, ← hs, ← hna, ← hnb] at HPTR
  rw [← hk] at HE2 HE3 HKK
  rw [← hk, ← hs, ← hna, ← hnb]
  have HKR := Lib.hid hk
  have HSR := Lib.hid hs
  have HNA := Lib.hid hna
  have HK0 := Lib.hid (show K0 w #[.int .i64 k, .int .i64 st, .slice aa na ca, .slice ab nb cb] ((w.alloc (.cells #[.int .i64 k, .int .i64 st, .slice aa na ca, .slice ab nb cb] 27)).alloc (.cells #[Value.int .i64 0, .int .i64 0, .slice none 0 0, .slice none 0 0] 27)) from Below.refl _ _)
  have HV1 := Lib.hid (HV.out _ _ (HPTR.out _ HK0.out))
  have HST := Lib.hid (fun W W' (h : K0 w #[.int .i64 k, .int .i64 st, .slice aa na ca, .slice ab nb cb] W) (hb : Below W.heap.size W W') => (show K0 w #[.int .i64 k, .int .i64 st, .slice aa na ca, .slice ab nb cb] W' from Below.trans h (hb.mono (K0.size h))))
  clear hk hs hna hnb HV hB hR
  go_enter Tryd.func15, Tryd.ntmps15
  go_wp2_with fail
  refine HV1.out.mono ?_
  rintro e w3 ⟨rfl, mq, hw3⟩
  have hk3 : K0 w #[.int .i64 k, .int .i64 st, .slice aa na ca, .slice ab nb cb] w3 := by rw [hw3]; exact below_drewN HK0.out mq
  have HK3 := Lib.hid hk3
  have r0 := cells_get (K0.res hk3) 0
  have r1 := cells_get (K0.res hk3) 1
  have r2 := cells_get (K0.res hk3) 2
  have r3 := cells_get (K0.res hk3) 3
  have f0 := cells_free (K0.res hk3) 0
  have f1 := cells_free (K0.res hk3) 1
  have f2 := cells_free (K0.res hk3) 2
  have f3 := cells_free (K0.res hk3) 3
  have hlS := lt_of_block (K0.res hk3)
  have x0 := cells_get (K0.box hk3) 0
  have x1 := cells_get (K0.box hk3) 1
  have x2 := cells_get (K0.box hk3) 2
  have x3 := cells_get (K0.box hk3) 3
  have hlB := lt_of_block (K0.box hk3)
  simp at r0 r1 r2 r3 x0 x1 x2 x3
  clear hw3 hk3 HV1 HK0
  by_cases hone : O0 = 0
  · obtain ⟨hok, hx1, hx2⟩ := HE2.out hone
    have HC3 := Lib.hid (HE3.out hok)
    obtain ⟨hk1, hk3⟩ := HKK.out hok
    subst hone
    have hwr : IntKind.i64.wrap (k - 1) = k - 1 := by rw [IntKind.wrap_i64]; omega
    clear HE1 HE2 HE3 HKK
    by_cases hy : 0 ≤ y ∧ y < k
    · have hin : inB y 0 (k - 1) = true := by simp [inB]; omega
      by_cases hxy : x = y
      · have hc : C0 = 2 := by rw [HC3.out, if_neg (fun h => h.2.2 hxy)]
        subst hc
        obtain ⟨rfl, rfl, rfl, rfl⟩ := HN0.out (by decide)
        have hxe : (x == y) = true := by simpa using hxy
        clear HN0 HC0 HC3 hxy hy hx1 hx2 HPTR
        go_wp2_with (go_at_call 43; refine (inRange _ _ _ _).mono ?_; rintro e w' ⟨rfl, rfl⟩)
        obtain ⟨g0, g1, g2, g3⟩ := res4 (a := .int .i64 0) (b := .int .i64 0) (c := .slice none 0 0) (d := .slice none 0 0) (K0.res HK3.out)
        refine bodyPost_ret (v := .tuple #[.agg #[.int .i64 0, .int .i64 0, .slice none 0 0, .slice none 0 0], .int .i64 2]) (by simp [results, Tryd.results15, go_sem, g0, g1, g2, g3]) rfl ⟨.slice none 0 0, .slice none 0 0, rfl, ImplTidied.built_none _ _, ?_⟩
        exact set4_below (K0.base HK3.out) (Nat.le_succ _)
      · have hc : C0 = 0 := by rw [HC3.out, if_pos ⟨⟨hx1, by omega⟩, hy, hxy⟩]
        have HYS := Lib.hid (HC0.out hc)
        have hxe : (x == y) = false := by simpa using hxy
        subst hc
        clear HN0 HC0 HC3
        -- {fast
        obtain ⟨l, hl⟩ : ∃ l, l = toL r := ⟨_, rfl⟩
        have h1 := okL hok
        rw [← hl] at h1
        have HLO := Lib.hid h1.1.2
        have hln := h1.2
        have hrel : relOf l = r := h1.1.1
        obtain ⟨a, hax⟩ : ∃ a : Nat, a = x.toNat := ⟨_, rfl⟩
        obtain ⟨b, hby⟩ : ∃ b : Nat, b = y.toNat := ⟨_, rfl⟩
        have hxa : x = (a : Int) := by omega
        have hyb : y = (b : Int) := by omega
        have HXE := Lib.hid (show X = exL l a b from by rw [HXX.out, hl, hax, hby]; rfl)
        clear hax hby
        subst hxa hyb
        obtain ⟨kn, hkn⟩ : ∃ kn : Nat, kn = l.k := ⟨_, rfl⟩
        obtain ⟨sn, hsn⟩ : ∃ sn : Nat, sn = l.start := ⟨_, rfl⟩
        obtain ⟨n, hn⟩ : ∃ n : Nat, n = l.acc.length := ⟨_, rfl⟩
        have hkk : k = (kn : Int) := by rw [HKR.out, hkn, ← hrel]; rfl
        have hss : st = (sn : Int) := by rw [HSR.out, hsn, ← hrel]; rfl
        have hnn : na = n := by rw [HNA.out, hn, ← hrel]; rfl
        have HCP := Lib.hid (fun bp W (hp : RelPtr W W.heap.size bp r) (hbp : bp < W.heap.size) => (show Calls Tryd.prog 44 #[.pointer (some ⟨bp, 0, none⟩)] W (fun e w' => ∃ va vn, e = .returned (.agg #[.int .i64 (kn : Nat), .int .i64 (sn : Nat), va, vn]) ∧ Built w' W.heap.size va vn r.accept r.next ∧ Below W.heap.size W w') from by
          have hh := CopyI.copyI r hok bp W W.heap.size hp (Nat.le_refl _) hbp
          rw [← hrel] at hh ⊢
          rw [hkn, hsn]
          exact hh))
        have hn150 : n ≤ 150 := by rw [hn]; exact hln
        have hn0 : 0 < n := by rw [hn]; exact Nat.lt_of_le_of_lt (Nat.zero_le _) HLO.out.st
        subst hkk hss hnn
        have HLK := Lib.hid hkn
        have HLS := Lib.hid hsn
        have HLN := Lib.hid hn
        have HREL := Lib.hid hrel
        have hkn3 : 1 ≤ kn ∧ kn ≤ 3 := by omega
        clear HKR HSR HNA hkn hsn hn h1 hln hrel hl hok hx1 HXX hk1 hk3
        go_upto_region 7 with (first
          | (go_at_call 43; refine (inRange _ _ _ _).mono ?_; rintro e w' ⟨rfl, rfl⟩)
          | (go_at_call 44; refine (HCP.out _ w3 (HPTR.out _ HK3.out) (by have := K0.size HK3.out; omega)).mono ?_; rintro e w5 ⟨va, vn, rfl, hbu, hb5⟩; have HB5 := Lib.hid hb5; have HU5 := Lib.hid hbu; obtain ⟨a5, n5, c5, rfl, HN5⟩ := hbu.acc.shape'; obtain ⟨items5, ho5, hx5, hs5⟩ := hbu.rows; have HO5 := Lib.hid ho5; have HX5 := Lib.hid hx5; have HS5 := Lib.hid hs5; obtain ⟨b5, m5, d5, rfl, HM5⟩ := hx5.shape'; clear hbu hb5 ho5 hx5 hs5))
        have hn5 : n5 = na := by rw [HN5.out, List.length_map, ← HREL.out]; exact HLN.out.symm
        subst hn5
        obtain ⟨W1, hW1⟩ : ∃ W, W = w5.alloc (.cells #[.int .i64 (kn : Nat), .int .i64 (sn : Nat), .slice a5 n5 c5, .slice b5 m5 d5] 27) := ⟨_, rfl⟩
        obtain ⟨N9, hN9⟩ : ∃ N, N = w5.heap.size := ⟨_, rfl⟩
        obtain ⟨B4, hB4⟩ : ∃ N, N = w3.heap.size := ⟨_, rfl⟩
        have h19 : W1.heap[N9]? = some (.cells #[.int .i64 (kn : Nat), .int .i64 (sn : Nat), .slice a5 n5 c5, .slice b5 m5 d5] 27 (0, 0)) := by rw [hW1, hN9]; exact heap_alloc_new _ _
        have hb51 : Below w5.heap.size w5 W1 := by rw [hW1]; exact (Below.refl _ _).alloc (Nat.le_refl _) _
        have HB0 := Lib.hid (show Below w3.heap.size w3 W1 from HB5.out.trans (hb51.mono HB5.out.size))
        rw [← hB4] at HO5 HX5 HU5
        have HD0 := Lib.hid (show Bld W1 B4 N9 (kn : Int) (sn : Int) (.slice a5 n5 c5) (.slice b5 m5 d5) [] items5 (r.accept.map Value.bool) from
          ⟨by rw [List.nil_append]; exact HO5.out.below hb51, HU5.out.acc.below hb51, HX5.out.below hb51, h19, by rw [hB4, hN9]; exact HB5.out.size⟩)
        have HFK := Lib.hid (fun W (hb : Below w3.heap.size w3 W) => HST.out _ _ HK3.out hb)
        rw [← hW1, ← hN9]
        obtain ⟨m, hm⟩ : ∃ m, m = wide kn := ⟨_, rfl⟩
        have hm26 : m ≤ 26 ∧ 0 < m := by have := wide_cases hkn3.1 hkn3.2; omega
        have HW := Lib.hid (fun W => (show Calls Tryd.prog 23 #[.int .i64 (kn : Nat)] W (fun e w' => e = .returned (.int .i64 (m : Nat)) ∧ W = w') from by
          rw [hm, ← wide_eq hkn3.1 hkn3.2]
          exact wideAny _ (by omega) (by omega) W))
        have HDA := Lib.hid (fun W c (hc : c < m) => (show Calls Tryd.prog 45 #[.int .i64 c, .int .i64 a] W (fun e w' => e = .returned (.int .i64 ((c / 3 ^ a % 3 : Nat) : Int)) ∧ W = w') from digitAny c a (by omega) (by omega) W))
        have HDB := Lib.hid (fun W c (hc : c < m) => (show Calls Tryd.prog 45 #[.int .i64 c, .int .i64 b] W (fun e w' => e = .returned (.int .i64 ((c / 3 ^ b % 3 : Nat) : Int)) ∧ W = w') from digitAny c b (by omega) (by omega) W))
        have HRL := Lib.hid (show ∀ i, i < n5 → (l.nx.getD i []).length = m from fun i hi => by rw [HLO.out.row i (by rw [← HLN.out]; exact hi), hm, HLK.out])
        have hm5 : m5 = n5 := by
          have h3 := congrArg List.length HS5.out
          rw [List.length_map, List.length_map, ← HREL.out] at h3
          rw [HM5.out, List.length_map, h3]
          show (l.nx.map ofN).length = _
          rw [List.length_map, HLO.out.len, HLN.out]
        subst hm5
        have HI0 := Lib.hid (show items5.map Prod.snd = (List.range m5).map (ct l a b m 0 0) from by
          rw [HS5.out, ← HREL.out]
          show (l.nx.map ofN).map (fun r => r.map (Value.int .i64)) = _
          rw [List.map_map]
          refine List.ext_getElem (by simp [HLO.out.len, HLN.out]) fun i h1 h2 => ?_
          have hi : i < l.nx.length := by simpa using h1
          have hi2 : i < m5 := by simpa using h2
          rw [List.getElem_map, List.getElem_map, List.getElem_range, ct_zero l a b m i (HRL.out i hi2)]
          simp [List.getD, hi])
        obtain ⟨gn, hb5e, hgn⟩ := HX5.out.addr (by rw [← HM5.out]; exact hn0)
        subst hb5e
        have HM := Lib.hid hm
        have HB4 := Lib.hid hB4
        have hnI : ∀ (i : Nat), i < m5 → i < l.acc.length := fun i hi => by rw [← HLN.out]; exact hi
        have HNI := Lib.hid hnI
        have HAA := Lib.hid (show r.accept = l.acc from by rw [← HREL.out]; rfl)
        obtain ⟨A0, hA0⟩ : ∃ A0, A0 = r.accept.map Value.bool := ⟨_, rfl⟩
        rw [← hA0] at HD0
        have HA0 := Lib.hid hA0
        have z9 := HD0.out.c2
        have hl9 := HD0.out.lt
        have HSZ1 := Lib.hid (show B4 ≤ W1.heap.size by rw [hB4]; exact HB0.out.size)
        have HDR := Lib.hid (show Bld (W1.alloc (.cells #[] 2)) B4 N9 (kn : Int) (sn : Int) (.slice a5 m5 c5) (.slice (some ⟨gn, 0, none⟩) m5 d5) [(.slice (some ⟨W1.heap.size, 0, none⟩) 0 0, tv 0 (fun _ => (m5 : Int)))] items5 A0 from
          HD0.out.addInt ((Below.refl _ _).alloc (Nat.le_refl _) _) (Lst.empty W1 B4 2 HSZ1.out) (fun q hq => by cases hq; exact Nat.le_refl _))
        have HBR := Lib.hid (show Below w3.heap.size w3 (W1.alloc (.cells #[] 2)) from Below.alloc HB0.out HB0.out.size _)
        clear hm hB4 hA0 hnI h19 hb51 hW1 hN9 HO5 HX5 HU5 HS5 HCP HPTR HN5 hgn hwr hin hxe x0 x1 x2 x3 hlB r0 r1 r2 r3 f0 f1 f2 f3 hlS
        go_wp2_with fail
        clear z9 hl9
        go_loopw [11, 12, 13] (fun sR sC _ wr => ∃ (c : Nat) (a9 : Option Addr) (cp9 : Nat) (items : List (Value × List Value)), c ≤ m ∧ sC = .int .i64 c ∧ sR = .slice a9 c cp9 ∧ Bld wr B4 N9 (kn : Int) (sn : Int) (.slice a5 m5 c5) (.slice (some ⟨gn, 0, none⟩) m5 d5) [(.slice a9 c cp9, tv c (fun _ => (m5 : Int)))] items A0 ∧
          items.map Prod.snd = (List.range m5).map (ct l a b m c 0) ∧ Below w3.heap.size w3 wr) (fun _ sC _ _ => m - (intOf sC).toNat)
        case atStart => exact ⟨0, _, _, _, Nat.zero_le _, rfl, rfl, HDR.out, HI0.out, HBR.out⟩
        case round =>
          obtain ⟨c, a9, cp9, items, hc, rfl, rfl, hbld, hit, hbel⟩ := hrel
          have HD := Lib.hid hbld
          have HI := Lib.hid hit
          have HB := Lib.hid hbel
          have x0 := cells_get (K0.box (HFK.out _ hbel)) 0
          have hlB := lt_of_block (K0.box (HFK.out _ hbel))
          simp at x0
          have HSZ := Lib.hid (show B4 ≤ wr.heap.size by rw [HB4.out]; exact hbel.size)
          clear hbld hit hbel HDR HBR HD0 HB0 HI0 HSZ1
          by_cases hlc : c < m
          · have HPA := Lib.hid (fun W => HDA.out W c hlc)
            have HPB := Lib.hid (fun W => HDB.out W c hlc)
            have HOF := Lib.hid (show offB a b c = decide (c / 3 ^ a % 3 ≠ c / 3 ^ b % 3) from rfl)
            obtain ⟨p1, hp1⟩ : ∃ p, p = c / 3 ^ a % 3 := ⟨_, rfl⟩
            obtain ⟨p2, hp2⟩ : ∃ p, p = c / 3 ^ b % 3 := ⟨_, rfl⟩
            rw [← hp1] at HPA HOF
            rw [← hp2] at HPB HOF
            clear hp1 hp2
            go_wp2_with (first
              | (go_at_call 23; refine (HW.out _).mono ?_; rintro e w' ⟨rfl, rfl⟩)
              | (at_builtin; refine wpList_push rfl _ _ 45 rfl 2 (.int .i64 0) 8 Tryd.underlying45 info2 (by decide) (by decide) B4 (.slice a9 c cp9) _ (.int .i64 ((m5 : Nat))) (Own.get [] _ HD.out.own) HSZ.out rfl (by rw [tv_length]; omega) rfl _ rfl rfl ?_; intro v5 w5' hp5; obtain ⟨a6, n6, cp6, rfl, HN6⟩ := hp5.lst.shape'; have HE5 := Lib.hid (HD.out.pushInt [] [] hp5); have HB6 := Lib.hid (Below.grown HB.out hp5.grow HB.out.size (fun q hq => by have := (Own.get [] _ HD.out.own).ge hq; rw [← HB4.out]; exact this)); clear hp5))
            have h6 : n6 = c + 1 := by rw [HN6.out, List.length_append, tv_length]; rfl
            subst h6
            have HE6 := Lib.hid (show Bld w5' B4 N9 (kn : Int) (sn : Int) (.slice a5 m5 c5) (.slice (some ⟨gn, 0, none⟩) m5 d5) [(.slice a6 (c + 1) cp6, tv (c + 1) (fun _ => (m5 : Int)))] items A0 from by
              have h3 := HE5.out
              have h4 : tv c (fun _ => (m5 : Int)) ++ [Value.int .i64 (m5 : Nat)] = tv (c + 1) (fun _ => (m5 : Int)) := tv_snoc c (fun _ => (m5 : Int))
              rw [h4] at h3
              exact h3)
            clear x0 hlB HE5 HD HB HSZ
            go_loopw [13] (fun sS wr' => ∃ (s : Nat) (items2 : List (Value × List Value)), s ≤ m5 ∧ sS = .int .i64 s ∧ Bld wr' B4 N9 (kn : Int) (sn : Int) (.slice a5 m5 c5) (.slice (some ⟨gn, 0, none⟩) m5 d5) [(.slice a6 (c + 1) cp6, tv (c + 1) (fun _ => (m5 : Int)))] items2 A0 ∧
              items2.map Prod.snd = (List.range m5).map (ct l a b m c s) ∧ Below w3.heap.size w3 wr') (fun sS _ => m5 - (intOf sS).toNat)
            case atStart => exact ⟨0, items, Nat.zero_le _, rfl, HE6.out, HI.out, HB6.out⟩
            case round =>
              obtain ⟨s, items2, hs, rfl, hbld, hit, hbel⟩ := hrel
              have HD2 := Lib.hid hbld
              have HI2 := Lib.hid hit
              have HB2 := Lib.hid hbel
              have x2 := cells_get (K0.box (HFK.out _ hbel)) 2
              have hlB := lt_of_block (K0.box (HFK.out _ hbel))
              simp at x2
              clear hbld hit hbel HE6 HB6 HI
              by_cases hls : s < m5
              · cases ho : offB a b c with
                | true =>
                  have hpne : (p1 : Int) ≠ (p2 : Int) := by
                    have h3 := of_decide_eq_true (HOF.out.symm.trans ho); omega
                  have hne : ((p1 : Int) != (p2 : Int)) = true := by simpa using hpne
                  have hl3 : items2.length = m5 := by have := congrArg List.length HI2.out; simpa using this
                  have h3i : s < items2.length := by rw [hl3]; exact hls
                  have hsn : items2[s].2 = ct l a b m c s s := by
                    have := congrArg (fun x => x[s]?) HI2.out
                    simp [h3i, hls] at this
                    exact this
                  have hit := HD2.out.item h3i
                  obtain ⟨gr, capr, hv, -, -, -⟩ := hit.view (by rw [hsn, ct_len]; omega)
                  rw [hsn, ct_len] at hv
                  have hpair : items2[s] = (.slice (some ⟨gr, 0, none⟩) m capr, ct l a b m c s s) := Prod.ext hv hsn
                  have HPAIR := Lib.hid hpair
                  have H3I := Lib.hid h3i
                  rw [hpair] at hit
                  have n4 := HD2.out.nxt.cellOf (i := s) (by rw [List.length_map]; exact h3i)
                  rw [List.getElem_map, hpair] at n4
                  have n4' : wr.cell? ⟨gn, s, none⟩ = some (.slice (some ⟨gr, 0, none⟩) m capr) := n4
                  have q3 := HD2.out.c3
                  have hlb := HD2.out.lt
                  have hlen := Lib.hid (show c < (ct l a b m c s s).length by rw [ct_len]; exact hlc)
                  have cr := hit.cellOf (i := c) hlen.out
                  have hcg : (ct l a b m c s s)[c]'hlen.out = .int .i64 ((F l a b c s s c : Nat) : Int) := by unfold ct; rw [tv_get]
                  rw [hcg] at cr
                  obtain ⟨old, hold⟩ : ∃ z : Int, z = ((F l a b c s s c : Nat) : Int) := ⟨_, rfl⟩
                  rw [← hold] at cr
                  have fr := hit.free c
                  have HD4 := Lib.hid (HD2.out.setItem H3I.out HPAIR.out hlen.out (.int .i64 (m5 : Nat)))
                  have HB7 := Lib.hid (HB2.out.setCell (p := ⟨gr, c, none⟩) (by
                    have := (HD2.out.item H3I.out)
                    rw [HPAIR.out] at this
                    rw [← HB4.out]
                    exact this.ge (k := gr) rfl) (.int .i64 (m5 : Nat)))
                  have hstep : (ct l a b m c s s).set c (.int .i64 (m5 : Nat)) = ct l a b m c (s + 1) s := by
                    have h3 := ct_step l a b m c s (HNI.out s hls) ho
                    rw [← HLN.out] at h3
                    exact h3
                  rw [hstep] at HD4
                  have HSND := Lib.hid (show (items2.set s (.slice (some ⟨gr, 0, none⟩) m capr, ct l a b m c (s + 1) s)).map Prod.snd = (List.range m5).map (ct l a b m c (s + 1)) from by
                    rw [List.map_set, HI2.out]
                    exact set_range m5 s _ _ _ hls rfl (fun i hi => ct_other l a b m c s hi))
                  clear hpne hl3 hsn hv hpair n4 hit hcg hold hstep ho
                  go_wp2_with (first
                    | (go_at_call_of 45 a; refine (HPA.out _).mono ?_; rintro e w' ⟨rfl, rfl⟩)
                    | (go_at_call_of 45 b; refine (HPB.out _).mono ?_; rintro e w' ⟨rfl, rfl⟩))
                  go_roundw
                  case rel => exact ⟨s + 1, _, hls, by go_num, HD4.out, HSND.out, HB7.out⟩
                  case measure => simp [intOf]; omega
                | false =>
                  have hpe : p1 = p2 := by
                    have h3 := of_decide_eq_false (HOF.out.symm.trans ho); omega
                  subst hpe
                  have hne : ((p1 : Int) != (p1 : Int)) = false := by simp
                  have HSND := Lib.hid (show items2.map Prod.snd = (List.range m5).map (ct l a b m c (s + 1)) from by
                    rw [HI2.out]
                    refine List.map_congr_left fun i hi => ?_
                    by_cases e : i = s
                    · subst e; exact ct_keep l a b m c i (HNI.out i hls) ho
                    · exact ct_other l a b m c s e)
                  clear ho
                  go_wp2_with (first
                    | (go_at_call_of 45 a; refine (HPA.out _).mono ?_; rintro e w' ⟨rfl, rfl⟩)
                    | (go_at_call_of 45 b; refine (HPB.out _).mono ?_; rintro e w' ⟨rfl, rfl⟩))
                  go_roundw
                  case rel => exact ⟨s + 1, _, hls, by go_num, HD2.out, HSND.out, HB2.out⟩
                  case measure => simp [intOf]; omega
              · obtain rfl : s = m5 := by omega
                have HSND := Lib.hid (show items2.map Prod.snd = (List.range s).map (ct l a b m (c + 1) 0) from by
                  rw [HI2.out]
                  exact List.map_congr_left fun i hi => ct_next l a b m c s (List.mem_range.1 hi))
                go_wp2_with fail
                go_roundw
                case rel => exact ⟨c + 1, _, _, _, hlc, by go_num, rfl, HD2.out, HSND.out, HB2.out⟩
                case measure => simp [intOf]; omega
          · obtain rfl : c = m := by omega
            have HAL := Lib.hid (show A0.length ≤ 100000000 from by rw [HA0.out, List.length_map, HAA.out, ← HLN.out]; omega)
            have HIL := Lib.hid (show (items.map Prod.fst).length ≤ 100000000 from by
              have h3 := congrArg List.length HI.out
              rw [List.length_map, List.length_map, List.length_range] at h3
              rw [List.length_map]; omega)
            have q2 := HD.out.c2
            have z2 := cells_free HD.out.at_ 2
            have hl9 := HD.out.lt
            go_upto_region 19 with (first
              | (go_at_call 23; refine (HW.out _).mono ?_; rintro e w' ⟨rfl, rfl⟩)
              | (at_builtin; refine wpList_push rfl _ _ 22 rfl 4 (.bool false) 1 Tryd.underlying22 info4 (by decide) (by decide) B4 (.slice a5 m5 c5) _ (.bool false) HD.out.acc HSZ.out rfl HAL.out rfl _ rfl rfl ?_; intro v4 w4 hp4; obtain ⟨a4, n4, cp4, rfl, HN4⟩ := hp4.lst.shape'; have o4 := HD.out.obAcc hp4; have q4 := (cells_get o4 2); have z4 := cells_free o4 2; have hl4 := (lt_of_block o4); have HE4 := Lib.hid (HD.out.pushAcc hp4); have HB4' := Lib.hid ((HB.out.grown hp4.grow HB.out.size (fun q hq => by have := HD.out.acc.ge hq; rw [← HB4.out]; exact this)).setCell (p := ⟨N9, 2, none⟩) (by show _ ≤ N9; rw [← HB4.out]; exact HD.out.obB) (.slice a4 n4 cp4)); simp at q4; clear hp4 o4))
            obtain ⟨W8, hW8⟩ : ∃ W, W = w4.setCell ⟨N9, 2, none⟩ (.slice a4 n4 cp4) := ⟨_, rfl⟩
            rw [← hW8] at HE4 HB4' ⊢
            have q3 := HE4.out.c3
            have hl5 := HE4.out.lt
            have z3 := cells_free HE4.out.at_ 3
            have HSZ4 := Lib.hid (show B4 ≤ W8.heap.size by rw [HB4.out]; exact HB4'.out.size)
            clear q2 z2 hl9 x0 hlB q4 z4 hl4 hW8
            go_upto_region 20 with (at_builtin; refine wpList_push rfl _ _ 23 rfl 45 (.slice none 0 0) 24 Tryd.underlying23 info54 (by decide) (by decide) B4 (.slice (some ⟨gn, 0, none⟩) m5 d5) _ (.slice a9 c cp9) HE4.out.nxt HSZ4.out rfl HIL.out rfl _ rfl rfl ?_; intro v5 w5' hp5; obtain ⟨a6, n6, cp6, rfl, HN6⟩ := hp5.lst.shape'; have o5 := HE4.out.obNext hp5; have q5 := (cells_get o5 3); have z5 := cells_free o5 3; have hl5' := (lt_of_block o5); have HE5 := Lib.hid (HE4.out.pushNext [] [] hp5); have HB5' := Lib.hid ((HB4'.out.grown hp5.grow HB4'.out.size (fun q hq => by have := HE4.out.nxt.ge hq; rw [← HB4.out]; exact this)).setCell (p := ⟨N9, 3, none⟩) (by show _ ≤ N9; rw [← HB4.out]; exact HE4.out.obB) (.slice a6 n6 cp6)); simp at q5; clear hp5 o5)
            obtain ⟨W9, hW9⟩ : ∃ W, W = w5'.setCell ⟨N9, 3, none⟩ (.slice a6 n6 cp6) := ⟨_, rfl⟩
            rw [← hW9] at HE5 HB5' ⊢
            clear hW9 q3 hl5 z3 q5 z5 hl5'
            have HBU := Lib.hid (show Built W9 B4 (.slice a4 n4 cp4) (.slice a6 n6 cp6) (l.acc ++ [false]) ((List.range (l.acc.length + 1)).map fun s => (List.range (wide l.k)).map fun q => ((exN l a b s q : Nat) : Int)) from Built.of_bld HE5.out (by rw [HA0.out, HAA.out, List.map_append]; rfl) (by
              rw [List.map_append, HI.out, List.range_succ, List.map_append, List.map_append, ← HLN.out, ← HLK.out, ← HM.out, List.map_map]
              congr 1
              · refine List.map_congr_left fun s hs => ?_
                rw [ct_full]
                show tv c _ = List.map _ (List.map _ _)
                unfold tv
                rw [List.map_map]
                rfl
              · show [tv c _] = [List.map _ (List.map _ _)]
                congr 1
                unfold tv
                rw [List.map_map]
                refine List.map_congr_left fun q hq => ?_
                show Value.int .i64 _ = Value.int .i64 ((exN l a b m5 q : Nat) : Int)
                unfold exN
                rw [if_neg (by rw [← HLN.out]; exact Nat.lt_irrefl _), HLN.out]))
            have HRPX := Lib.hid (show RelPtr W9 W9.heap.size N9 (relOf X) from by
              rw [HXE.out, relE, ← HLK.out, ← HLS.out]
              have HBU2 := HBU.out
              rw [← HLK.out] at HBU2
              obtain ⟨va', vn', e, h1, h2⟩ := HBU2.reads W9.heap.size (Nat.le_refl _) (kn : Int) (sn : Int)
              simp at e
              refine ⟨.slice a4 n4 cp4, .slice a6 n6 cp6, by rw [cells_get HE5.out.at_]; rfl, by rw [cells_get HE5.out.at_]; rfl, by rw [cells_get HE5.out.at_]; rfl, by rw [cells_get HE5.out.at_]; rfl, ?_, ?_⟩
              · rw [e.1]; exact h1
              · rw [e.2]; exact h2)
            have HXO := Lib.hid (show X.Ok from by rw [HXE.out]; exact ex_ok HLO.out a b)
            have HXN := Lib.hid (show X.acc.length ≤ 1000 from by rw [HXE.out, ex_len, ← HLN.out]; omega)
            have HT := Lib.hid (SpecTidied.tidied X HXO.out N9 W9 W9.heap.size HRPX.out (Nat.le_refl _) HE5.out.lt (by have := HXN.out; omega))
            have HTM := Lib.hid (show (tidyAcc X).length ≤ 1000000 from tidy_most HXO.out (by have := HXN.out; omega))
            obtain ⟨eC, eK, eA, eN⟩ := HYS.out
            have HTL := Lib.hid (fun a4 b4 n4 c4 m4 d4 W B hbu => ToldI.toldI X HTM.out a4 b4 n4 c4 m4 d4 W B hbu)
            rw [← eC, ← eK, ← eA, ← eN] at HTL
            obtain ⟨kk, hkk⟩ : ∃ y : Int, y = (X.k : Nat) := ⟨_, rfl⟩
            rw [← hkk] at HTL HT
            have HKR := Lib.hid (HFK.out _ HB5'.out)
            clear eC eK eA eN HYS hkk HBU HRPX HTM HXO HXN
            go_wp2_with fail
            refine HT.out.mono ?_
            rintro e w7 ⟨va, vn', rfl, hbu, hb7⟩
            obtain ⟨a7, n7, c7, rfl, -⟩ := hbu.acc.shape'
            obtain ⟨items7, -, hnx7, -⟩ := hbu.rows
            obtain ⟨b7, m7, d7, rfl, -⟩ := hnx7.shape'
            have HK7 := Lib.hid (HST.out _ _ HKR.out hb7)
            have HO := Lib.hid (HTL.out a7 b7 n7 c7 m7 d7 w7 _ hbu)
            clear hbu hb7 hnx7 HT HTL
            go_wp2_with fail
            refine HO.out.mono ?_
            rintro e w8 ⟨va, vn', rfl, hbu, hb8⟩
            have HBU := Lib.hid (show Built w8 (w.heap.size + 2) va vn' cA cN from hbu.mono (K0.size HKR.out))
            obtain ⟨a8, n8, c8, rfl, -⟩ := hbu.acc.shape'
            obtain ⟨items8, -, hnx8, -⟩ := hbu.rows
            obtain ⟨b8, m8, d8, rfl, -⟩ := hnx8.shape'
            have HK8 := Lib.hid (HST.out _ _ HK7.out hb8)
            have r0 := cells_get (K0.res HK8.out) 0
            have r1 := cells_get (K0.res HK8.out) 1
            have r2 := cells_get (K0.res HK8.out) 2
            have r3 := cells_get (K0.res HK8.out) 3
            have f0 := cells_free (K0.res HK8.out) 0
            have f1 := cells_free (K0.res HK8.out) 1
            have f2 := cells_free (K0.res HK8.out) 2
            have f3 := cells_free (K0.res HK8.out) 3
            have hlS := lt_of_block (K0.res HK8.out)
            simp at r0 r1 r2 r3
            clear hbu hb8 hnx8 HO
            go_wp2_with fail
            obtain ⟨g0, g1, g2, g3⟩ := res4 (a := .int .i64 cK) (b := .int .i64 0) (c := .slice a8 n8 c8) (d := .slice b8 m8 d8) (K0.res HK8.out)
            refine bodyPost_ret (v := .tuple #[.agg #[.int .i64 cK, .int .i64 0, .slice a8 n8 c8, .slice b8 m8 d8], .int .i64 cC]) (by simp [results, Tryd.results15, go_sem, g0, g1, g2, g3]) rfl ⟨.slice a8 n8 c8, .slice b8 m8 d8, rfl, ?_, ?_⟩
            · exact (set4_built HBU.out (by omega)).mono (by omega)
            · exact set4_below (K0.base HK8.out) (Nat.le_succ _)
        -- }fast
    · have hin : inB y 0 (k - 1) = false := by simp [inB]; omega
      have hc : C0 = 2 := by rw [HC3.out, if_neg (fun h => hy h.2.1)]
      subst hc
      obtain ⟨rfl, rfl, rfl, rfl⟩ := HN0.out (by decide)
      clear HN0 HC0 HC3 hy hx1 hx2 HPTR
      go_wp2_with (go_at_call 43; refine (inRange _ _ _ _).mono ?_; rintro e w' ⟨rfl, rfl⟩)
      obtain ⟨g0, g1, g2, g3⟩ := res4 (a := .int .i64 0) (b := .int .i64 0) (c := .slice none 0 0) (d := .slice none 0 0) (K0.res HK3.out)
      refine bodyPost_ret (v := .tuple #[.agg #[.int .i64 0, .int .i64 0, .slice none 0 0, .slice none 0 0], .int .i64 2]) (by simp [results, Tryd.results15, go_sem, g0, g1, g2, g3]) rfl ⟨.slice none 0 0, .slice none 0 0, rfl, ImplTidied.built_none _ _, ?_⟩
      exact set4_below (K0.base HK3.out) (Nat.le_succ _)
  · have hc := HE1.out hone
    subst hc
    obtain ⟨rfl, rfl, rfl, rfl⟩ := HN0.out hone
    have hcne : (cC != 0) = true := by simpa using hone
    have hceq : (cC == 0) = false := by simpa using hone
    clear HN0 HC0 HE1 HE2 HE3 HKK HPTR
    go_wp2_with fail
    obtain ⟨g0, g1, g2, g3⟩ := res4 (a := .int .i64 0) (b := .int .i64 0) (c := .slice none 0 0) (d := .slice none 0 0) (K0.res HK3.out)
    refine bodyPost_ret (v := .tuple #[.agg #[.int .i64 0, .int .i64 0, .slice none 0 0, .slice none 0 0], .int .i64 cC]) (by simp [results, Tryd.results15, go_sem, g0, g1, g2, g3]) rfl ⟨.slice none 0 0, .slice none 0 0, rfl, ImplTidied.built_none _ _, ?_⟩
    exact set4_below (K0.base HK3.out) (Nat.le_succ _)
end Go.Proofs.YtcpcbmappcndcaaDoor.SameS
