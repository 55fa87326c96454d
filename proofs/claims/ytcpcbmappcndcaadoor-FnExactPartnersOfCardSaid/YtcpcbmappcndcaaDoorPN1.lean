
/- Whether relations are of pairs (checkPairs, of one relation), and the code of a word and a relation of pairs: what the program answers.
   Conditions: stated at each theorem. -/
import Derived.Test.YtcpcbmappcndcaaDoorFX21
import Derived.Test.YtcpcbmappcndcaaDoorFX25
import Derived.Test.YtcpcbmappcndcaaDoorFX29
import Derived.Test.YtcpcbmappcndcaaDoorFX28
namespace Go.Proofs.YtcpcbmappcndcaaDoor.PartI
set_option linter.unusedVariables false
set_option linter.unusedSimpArgs false
set_option linter.ambiguousOpen false
set_option maxRecDepth 100000
open Go.RowKit Mem Copy Rel Valid Heap Bld Columns TidyRight SpecRight ToL SpecTidyRel ErrCode OppImpl StepI WordMath Word DropI FixedI FixFn ImplRight ImplTidied OrdI

def pairC (r : R) : Int := if okB r = true then (if r.tapes = 2 then 0 else 2) else 1

set_option maxHeartbeats 8000000 in
theorem pairsI (k st : Int) (aa ab : Option Addr) (na ca nb cb : Nat) (r : R) (w : World) (B : Nat) (h : RelAt w B (.agg #[.int .i64 k, .int .i64 st, .slice aa na ca, .slice ab nb cb]) r) (hk : k = r.tapes) (hB : B ≤ w.heap.size) (N : Nat)
    (hN : w.heap[N]? = some (.cells #[.int .i64 k, .int .i64 st, .slice aa na ca, .slice ab nb cb] 27 (0, 0))) :
    Calls Tryd.prog 69 #[.slice (some ⟨N, 0, none⟩) 1 1] w fun e w' => e = .returned (.int .i64 (pairC r)) ∧ Below w.heap.size w w' := by
  have HV := Lib.hid (fun W (hb : Below w.heap.size w W) => ValidImpl.implValid _ r W B (h.below hb hB) (Nat.le_trans hB hb.size))
  have HE0 := Lib.hid (show okB r = false → pairC r = 1 from fun h => by simp [pairC, h])
  have HE1 := Lib.hid (show okB r = true → pairC r = if k = 2 then 0 else 2 from fun h => by unfold pairC; rw [if_pos h, hk])
  obtain ⟨C, hC⟩ : ∃ y, y = pairC r := ⟨_, rfl⟩
  obtain ⟨q, hq⟩ : ∃ y, y = okB r := ⟨_, rfl⟩
  rw [← hC, ← hq] at HE0 HE1
  rw [← hq] at HV
  rw [← hC]
  have HN := Lib.hid hN
  have hlN := lt_of_block hN
  have HLN := Lib.hid hlN
  have x0 := cells_get hN 0
  have x1 := cells_get hN 1
  have x2 := cells_get hN 2
  have x3 := cells_get hN 3
  simp at x0 x1 x2 x3
  obtain ⟨W1, hW1⟩ : ∃ W, W = w.alloc (.cells #[.int .i64 k, .int .i64 st, .slice aa na ca, .slice ab nb cb] 27) := ⟨_, rfl⟩
  have hb1 : Below w.heap.size w W1 := by rw [hW1]; exact (Below.refl _ _).alloc (Nat.le_refl _) _
  have HV1 := Lib.hid (HV.out W1 hb1)
  have HB1 := Lib.hid hb1
  have HW1 := Lib.hid hW1
  clear hC hq hk hB h hN HV hb1 hW1
  go_enter Tryd.func69, Tryd.ntmps69
  go_wp2_with fail
  refine wp_loop_rounds 2 ?_
  rw [rounds_succ]
  go_wp2_with fail
  rw [← HW1.out]
  refine HV1.out.mono ?_
  rintro e w3 ⟨rfl, hb3⟩
  have hb4 : Below w.heap.size w w3 := HB1.out.trans (hb3.mono HB1.out.size)
  have HB4 := Lib.hid hb4
  clear HW1 HB1 HV1 hlN x0 x1 x2 x3 hb3
  cases q with
  | false =>
    obtain rfl := HE0.out rfl
    clear HE0 HE1
    go_wp2_with fail
    go_ret
    exact ⟨rfl, HB4.out⟩
  | true =>
    have HE2 := Lib.hid (HE1.out rfl)
    have hn3 := hb4.block N HLN.out
    rw [HN.out] at hn3
    have hl3 := lt_of_block hn3
    have x0 := cells_get hn3 0
    have x1 := cells_get hn3 1
    have x2 := cells_get hn3 2
    have x3 := cells_get hn3 3
    simp at x0 x1 x2 x3
    clear HE0 HE1 hb4 hn3
    by_cases h2 : k = 2
    · have hc : C = 0 := by rw [HE2.out, if_pos h2]
      subst hc
      subst h2
      go_wp2_with fail
      rw [rounds_succ]
      go_wp2_with fail
      refine wp_loop_rounds 2 ?_
      rw [rounds_succ]
      go_wp2_with fail
      rw [rounds_succ]
      go_wp2_with fail
      go_ret
      exact ⟨rfl, HB4.out.alloc HB4.out.size _⟩
    · have hc : C = 2 := by rw [HE2.out, if_neg h2]
      subst hc
      have hk1 : (k != 2) = true := by simpa using h2
      go_wp2_with fail
      rw [rounds_succ]
      go_wp2_with fail
      refine wp_loop_rounds 2 ?_
      rw [rounds_succ]
      go_wp2_with fail
      go_ret
      exact ⟨rfl, HB4.out.alloc HB4.out.size _⟩
/-- The code of a word and a relation of pairs. -/
def partC (r : R) (u : ByteArray) : Int := if wordB u = true then pairC r else 1
def parC (r : R) (u : ByteArray) : Int := if partC r u = 0 then fixFC r 0 u else partC r u
def parK (r : R) (u : ByteArray) : Int := if partC r u = 0 then fixFK r 0 u else 0
def parA (r : R) (u : ByteArray) : List Bool := if partC r u = 0 then fixFA r 0 u else []
def parN (r : R) (u : ByteArray) : List (List Int) := if partC r u = 0 then fixFN r 0 u else []
theorem par_no {r : R} {u : ByteArray} (h : partC r u ≠ 0) : parC r u = partC r u ∧ parK r u = 0 ∧ parA r u = [] ∧ parN r u = [] := ⟨if_neg h, if_neg h, if_neg h, if_neg h⟩
theorem par_yes {r : R} {u : ByteArray} (h : partC r u = 0) : parC r u = fixFC r 0 u ∧ parK r u = fixFK r 0 u ∧ parA r u = fixFA r 0 u ∧ parN r u = fixFN r 0 u := ⟨if_pos h, if_pos h, if_pos h, if_pos h⟩
theorem par_fix {r : R} {u : ByteArray} (h : partC r u = 0) : fixC0 r 0 u = 0 := by
  unfold partC at h
  by_cases hw : wordB u = true
  · rw [if_pos hw] at h
    unfold pairC at h
    by_cases hok : okB r = true
    · rw [if_pos hok] at h
      by_cases h2 : r.tapes = 2
      · unfold fixC0 dropC
        rw [if_pos ⟨hok, hw⟩, if_pos hok, h2, if_pos (by omega)]
      · rw [if_neg h2] at h; omega
    · rw [if_neg hok] at h; omega
  · rw [if_neg hw] at h; omega

set_option maxHeartbeats 8000000 in
theorem partnersI (v : Value) (r : R) (u : ByteArray) (hu : u.size ≤ maxLen) (w : World) (B : Nat) (h : RelAt w B v r) (hB : B ≤ w.heap.size) :
    Calls Tryd.prog 41 #[v, .string u] w fun e w' => e = .returned (.int .i64 (partC r u)) ∧ Below w.heap.size w w' := by
  have HWD := Lib.hid (fun W => implWord u W hu)
  have HE0 := Lib.hid (show wordB u = false → partC r u = 1 from fun h => by simp [partC, h])
  have HE1 := Lib.hid (show wordB u = true → partC r u = pairC r from fun h => by unfold partC; rw [if_pos h])
  obtain ⟨C, hC⟩ : ∃ y, y = partC r u := ⟨_, rfl⟩
  obtain ⟨P, hP⟩ : ∃ y, y = pairC r := ⟨_, rfl⟩
  obtain ⟨q, hq⟩ : ∃ y, y = wordB u := ⟨_, rfl⟩
  rw [← hC, ← hq] at HE0 HE1
  rw [← hP] at HE1
  rw [← hq] at HWD
  rw [← hC]
  obtain ⟨va, vn, rfl, ha, hx⟩ := h
  have hR : RelAt w B (.agg #[.int .i64 r.tapes, .int .i64 r.start, va, vn]) r := ⟨va, vn, rfl, ha, hx⟩
  obtain ⟨aa, ba, oa, ca, rfl, -, -, -⟩ := ha
  obtain ⟨-, ⟨ab, bb, ob, cb, rfl, -, -, -⟩, -⟩ := hx
  obtain ⟨k, hk⟩ : ∃ k : Int, k = r.tapes := ⟨_, rfl⟩
  obtain ⟨st, hs⟩ : ∃ st : Int, st = r.start := ⟨_, rfl⟩
  obtain ⟨na, hna⟩ : ∃ na, na = r.accept.length := ⟨_, rfl⟩
  obtain ⟨nb, hnb⟩ : ∃ nb, nb = r.next.length := ⟨_, rfl⟩
  rw [← hk, ← hs, ← hna, ← hnb] at hR
  rw [← hk, ← hs, ← hna, ← hnb]
  have HPR := Lib.hid (fun W (hb : Below w.heap.size w W) => (show Calls Tryd.prog 69 #[.slice (some ⟨W.heap.size, 0, none⟩) 1 1] (W.alloc (.cells #[.int .i64 k, .int .i64 st, .slice aa na ca, .slice ab nb cb] 27)) (fun e w' => e = .returned (.int .i64 P) ∧ Below (W.alloc (.cells #[.int .i64 k, .int .i64 st, .slice aa na ca, .slice ab nb cb] 27)).heap.size (W.alloc (.cells #[.int .i64 k, .int .i64 st, .slice aa na ca, .slice ab nb cb] 27)) w') from by
    rw [hP]
    exact pairsI k st aa ab na ca nb cb r _ B ((hR.below hb hB).below ((Below.refl _ W).alloc (Nat.le_refl _) _) (Nat.le_trans hB hb.size)) hk (by rw [size_alloc']; have := hb.size; omega) _ (heap_alloc_new _ _)))
  have HK0 := Lib.hid (show KB w #[.int .i64 k, .int .i64 st, .slice aa na ca, .slice ab nb cb] (w.alloc (.cells #[.int .i64 k, .int .i64 st, .slice aa na ca, .slice ab nb cb] 27)) from Below.refl _ _)
  obtain ⟨W1, hW1⟩ : ∃ W, W = w.alloc (.cells #[.int .i64 k, .int .i64 st, .slice aa na ca, .slice ab nb cb] 27) := ⟨_, rfl⟩
  rw [← hW1] at HK0
  have HWW := Lib.hid (HWD.out W1)
  have HP1 := Lib.hid (HPR.out W1 (KB.base HK0.out))
  have HW1 := Lib.hid hW1
  have hbx := KB.box HK0.out
  have x0 := cells_get hbx 0
  have x1 := cells_get hbx 1
  have x2 := cells_get hbx 2
  have x3 := cells_get hbx 3
  have hlx := lt_of_block hbx
  simp at x0 x1 x2 x3
  clear hbx hk hs hna hnb hR hB hW1 HWD HPR hC hP hq
  go_enter Tryd.func41, Tryd.ntmps41
  go_upto_region 1 with fail
  rw [← HW1.out]
  cases q with
  | false =>
    obtain rfl := HE0.out rfl
    go_wp2_with (go_at_call 30; refine HWW.out.mono ?_; rintro e w' ⟨rfl, rfl⟩)
    go_ret
    exact ⟨rfl, KB.base HK0.out⟩
  | true =>
    obtain rfl := HE1.out rfl
    go_wp2_with (go_at_call 30; refine HWW.out.mono ?_; rintro e w' ⟨rfl, rfl⟩)
    refine HP1.out.mono ?_
    rintro e w3 ⟨rfl, hb3⟩
    go_wp2_with fail
    go_ret
    have hb5 : Below W1.heap.size W1 w3 := ((Below.refl _ W1).alloc (Nat.le_refl _) (.cells #[.int .i64 k, .int .i64 st, .slice aa na ca, .slice ab nb cb] 27)).trans (hb3.mono (by rw [size_alloc']; omega))
    exact ⟨rfl, (KB.base HK0.out).trans (hb5.mono (KB.base HK0.out).size)⟩
set_option maxHeartbeats 8000000 in
theorem implPart (v : Value) (r : R) (u : ByteArray) (hu : u.size ≤ maxLen) (w : World) (B : Nat) (h : RelAt w B v r) (hB : B ≤ w.heap.size) (hg : Laid w) :
    Calls Tryd.prog 14 #[v, .string u] w fun e w' => ∃ va vn, e = .returned (.tuple #[.agg #[.int .i64 (parK r u), .int .i64 0, va, vn], .int .i64 (parC r u)]) ∧ Built w' w.heap.size va vn (parA r u) (parN r u) ∧ Below w.heap.size w w' := by
  have HGL := Lib.hid (fun W (hb : Below w.heap.size w W) => hg.below hb)
  have HDR := Lib.hid (fun W (hb : Below w.heap.size w W) => partnersI v r u hu W B (h.below hb hB) (Nat.le_trans hB hb.size))
  have HFX := Lib.hid (fun (hp : partC r u = 0) W (hb : Below w.heap.size w W) => (show Calls Tryd.prog 33 #[v, .int .i64 0, .string u] W fun e w' => ∃ va vn, ∃ n : Int, e = .returned (.tuple #[.agg #[.int .i64 (parK r u), .int .i64 0, va, vn], errV (fixB (toL r) 0 u) n]) ∧ Built w' W.heap.size va vn (parA r u) (parN r u) ∧ Below W.heap.size W w' from by
    have h0 := par_fix hp
    obtain ⟨h1, h2, h3⟩ := fix_word h0
    obtain ⟨k2, kt, ex⟩ := drop_ok h1 h3
    obtain ⟨-, y2, y3, y4⟩ := par_yes hp
    obtain ⟨-, e2, e3, e4⟩ := fixF_yes h0
    rw [y2, y3, y4, e2, e3, e4]
    exact fixedI (toL r) (okL h1).1.2 k2 (0 : Int).toNat kt u h2 (by have := (okL h1).2; omega) v W W.heap.size (by rw [(okL h1).1.1]; exact (h.below hb hB).mono (Nat.le_trans hB hb.size)) (Nat.le_refl _)))
  have HN0 := Lib.hid (fun h0 => par_no (r := r) (u := u) h0)
  have HC0 := Lib.hid (fun (hp : partC r u = 0) => (show parC r u = if fixB (toL r) 0 u = true then 0 else 3 from by
    rw [(par_yes hp).1]; exact (fixF_yes (par_fix hp)).1))
  have HF0 := Lib.hid (fun (hp : partC r u = 0) (hq : fixB (toL r) 0 u = false) => (show parK r u = 0 ∧ parA r u = [] ∧ parN r u = [] from by
    obtain ⟨-, y2, y3, y4⟩ := par_yes hp
    obtain ⟨-, e2, e3, e4⟩ := fixF_yes (par_fix hp)
    rw [y2, y3, y4, e2, e3, e4]; exact fix_no hq))
  obtain ⟨Q, hQ⟩ : ∃ y, y = fixB (toL r) 0 u := ⟨_, rfl⟩
  obtain ⟨C0, hC0⟩ : ∃ y, y = partC r u := ⟨_, rfl⟩
  obtain ⟨cC, hcC⟩ : ∃ y, y = parC r u := ⟨_, rfl⟩
  obtain ⟨cK, hcK⟩ : ∃ y, y = parK r u := ⟨_, rfl⟩
  obtain ⟨cA, hcA⟩ : ∃ y, y = parA r u := ⟨_, rfl⟩
  obtain ⟨cN, hcN⟩ : ∃ y, y = parN r u := ⟨_, rfl⟩
  rw [← hC0, ← hcK, ← hcA, ← hcN, ← hQ] at HFX HF0
  rw [← hC0, ← hcC, ← hcK, ← hcA, ← hcN] at HN0
  rw [← hC0, ← hcC, ← hQ] at HC0
  rw [← hC0] at HDR
  rw [← hcC, ← hcK, ← hcA, ← hcN]
  clear hQ hC0 hcC hcK hcA hcN hg hu
  obtain ⟨va, vn, rfl, ha, hx⟩ := h
  obtain ⟨aa, ba, oa, ca, rfl, -, -, -⟩ := ha
  obtain ⟨-, ⟨ab, bb, ob, cb, rfl, -, -, -⟩, -⟩ := hx
  obtain ⟨k, hk⟩ : ∃ k : Int, k = r.tapes := ⟨_, rfl⟩
  obtain ⟨st, hs⟩ : ∃ st : Int, st = r.start := ⟨_, rfl⟩
  obtain ⟨na, hna⟩ : ∃ na, na = r.accept.length := ⟨_, rfl⟩
  obtain ⟨nb, hnb⟩ : ∃ nb, nb = r.next.length := ⟨_, rfl⟩
  rw [← hk, ← hs, ← hna, ← hnb] at HDR HFX
  rw [← hk, ← hs, ← hna, ← hnb]
  have HK0 := Lib.hid (show K0 w #[.int .i64 k, .int .i64 st, .slice aa na ca, .slice ab nb cb] ((w.alloc (.cells #[.int .i64 k, .int .i64 st, .slice aa na ca, .slice ab nb cb] 27)).alloc (.cells #[Value.int .i64 0, .int .i64 0, .slice none 0 0, .slice none 0 0] 27)) from Below.refl _ _)
  have HV1 := Lib.hid (HDR.out _ (K0.base HK0.out))
  have HST := Lib.hid (fun W W' (h : K0 w #[.int .i64 k, .int .i64 st, .slice aa na ca, .slice ab nb cb] W) (hb : Below W.heap.size W W') => (show K0 w #[.int .i64 k, .int .i64 st, .slice aa na ca, .slice ab nb cb] W' from Below.trans h (hb.mono (K0.size h))))
  clear hk hs hna hnb HDR hB
  go_enter Tryd.func14, Tryd.ntmps14
  go_wp2_with fail
  refine HV1.out.mono ?_
  rintro e w3 ⟨rfl, hb3⟩
  have hk3 : K0 w #[.int .i64 k, .int .i64 st, .slice aa na ca, .slice ab nb cb] w3 := by
    have h1 := hb3
    rw [size_alloc', size_alloc'] at h1
    exact h1
  have HK3 := Lib.hid hk3
  have r0 := cells_get (K0.res hk3) 0
  have r1 := cells_get (K0.res hk3) 1
  have r2 := cells_get (K0.res hk3) 2
  have r3 := cells_get (K0.res hk3) 3
  have f0 := cells_free (K0.res hk3) 0
  have f1 := cells_free (K0.res hk3) 1
  have f2 := cells_free (K0.res hk3) 2
  have f3 := cells_free (K0.res hk3) 3
  have hlS := lt_of_block (K0.res hk3)
  have x0 := cells_get (K0.box hk3) 0
  have x1 := cells_get (K0.box hk3) 1
  have x2 := cells_get (K0.box hk3) 2
  have x3 := cells_get (K0.box hk3) 3
  simp at r0 r1 r2 r3 x0 x1 x2 x3
  clear hb3 hk3 HV1 HK0
  by_cases h0 : C0 = 0
  · have HC := Lib.hid (HC0.out h0)
    have HX1 := Lib.hid (HFX.out h0)
    have HX0 := Lib.hid (HF0.out h0)
    subst h0
    clear HN0 HC0 HF0 HFX
    go_wp2_with (first
      | (go_at_call 33; refine (HX1.out _ (K0.base HK3.out)).mono ?_; rintro e w5 ⟨va, vn, n5, rfl, hbu, hb5⟩; have HK5 := Lib.hid (HST.out _ _ HK3.out hb5); have HB5 := Lib.hid (hbu.mono (K0.size HK3.out)); obtain ⟨a4, n4, c4, rfl, -⟩ := hbu.acc.shape'; obtain ⟨items4, -, hnx4, -⟩ := hbu.rows; obtain ⟨b4, m4, d4, rfl, -⟩ := hnx4.shape'; have HO := Lib.hid (outcomeI Q cK a4 b4 n4 c4 m4 d4 n5 w5 (HGL.out _ (K0.base HK5.out)) (w.heap.size + 2) cA cN HB5.out HX0.out); rw [← HC.out] at HO; clear hbu hb5 hnx4 r0 r1 r2 r3 f0 f1 f2 f3 hlS x0 x1 x2 x3)
      | (go_at_call 32; refine HO.out.mono ?_; rintro e w6 ⟨va, vn, rfl, hbu, hb6⟩; have HBU := Lib.hid hbu; obtain ⟨a5, n5', c5, rfl, -⟩ := hbu.acc.shape'; obtain ⟨items5, -, hnx5, -⟩ := hbu.rows; obtain ⟨b5, m5, d5, rfl, -⟩ := hnx5.shape'; have HK6 := Lib.hid (HST.out _ _ HK5.out hb6); have r0 := cells_get (K0.res HK6.out) 0; have r1 := cells_get (K0.res HK6.out) 1; have r2 := cells_get (K0.res HK6.out) 2; have r3 := cells_get (K0.res HK6.out) 3; have f0 := cells_free (K0.res HK6.out) 0; have f1 := cells_free (K0.res HK6.out) 1; have f2 := cells_free (K0.res HK6.out) 2; have f3 := cells_free (K0.res HK6.out) 3; have hlS := lt_of_block (K0.res HK6.out); simp at r0 r1 r2 r3; clear hbu hb6 hnx5 HO))
    obtain ⟨g0, g1, g2, g3⟩ := res4 (a := .int .i64 cK) (b := .int .i64 0) (c := .slice a5 n5' c5) (d := .slice b5 m5 d5) (K0.res HK6.out)
    refine bodyPost_ret (v := .tuple #[.agg #[.int .i64 cK, .int .i64 0, .slice a5 n5' c5, .slice b5 m5 d5], .int .i64 cC]) (by simp [results, Tryd.results14, go_sem, g0, g1, g2, g3]) rfl ⟨.slice a5 n5' c5, .slice b5 m5 d5, rfl, ?_, ?_⟩
    · exact (set4_built HBU.out (by omega)).mono (by omega)
    · exact set4_below (K0.base HK6.out) (Nat.le_succ _)
  · obtain ⟨rfl, rfl, rfl, rfl⟩ := HN0.out h0
    have hcne : (cC != 0) = true := by simpa using h0
    clear HN0 HC0 HF0 HFX HGL
    go_wp2_with fail
    obtain ⟨g0, g1, g2, g3⟩ := res4 (a := .int .i64 0) (b := .int .i64 0) (c := .slice none 0 0) (d := .slice none 0 0) (K0.res HK3.out)
    refine bodyPost_ret (v := .tuple #[.agg #[.int .i64 0, .int .i64 0, .slice none 0 0, .slice none 0 0], .int .i64 cC]) (by simp [results, Tryd.results14, go_sem, g0, g1, g2, g3]) rfl ⟨.slice none 0 0, .slice none 0 0, rfl, ImplTidied.built_none _ _, ?_⟩
    exact set4_below (K0.base HK3.out) (Nat.le_succ _)
end Go.Proofs.YtcpcbmappcndcaaDoor.PartI
/- The code of a word and a relation of pairs, and PartnersOf: what the model answers.
   Conditions: stated at each theorem. -/
namespace Go.Proofs.YtcpcbmappcndcaaDoor.PartS
set_option linter.unusedVariables false
set_option linter.unusedSimpArgs false
set_option linter.ambiguousOpen false
set_option maxRecDepth 100000
open Go.RowKit Mem Copy Rel Valid Heap Bld Columns TidyRight SpecRight ToL SpecTidyRel OppImpl StepI WordMath Word DropI FixedI FixFn ImplRight ImplTidied ToldI PartI

set_option maxHeartbeats 8000000 in
theorem twoS (r : R) (bp : Nat) (w : World) (B : Nat) (h : RelPtr w B bp r) :
    Calls Tryd.prog 68 #[.pointer (some ⟨bp, 0, none⟩)] w fun e w' => e = .returned (.int .i64 (pairC r)) ∧ ∃ m, w' = w.drewN m := by
  have HV := Lib.hid (specOk r bp w B h)
  have HE0 := Lib.hid (show okB r = false → pairC r = 1 from fun h => by simp [pairC, h])
  have HE1 := Lib.hid (show okB r = true → pairC r = if r.tapes = 2 then 0 else 2 from fun h => by unfold pairC; rw [if_pos h])
  obtain ⟨va, vn, c0, -, -, -, -, -⟩ := h
  obtain ⟨C, hC⟩ : ∃ y, y = pairC r := ⟨_, rfl⟩
  obtain ⟨q, hq⟩ : ∃ y, y = okB r := ⟨_, rfl⟩
  rw [← hC, ← hq] at HE0 HE1
  rw [← hq] at HV
  rw [← hC]
  obtain ⟨k, hk⟩ : ∃ k : Int, k = r.tapes := ⟨_, rfl⟩
  rw [← hk] at c0 HE1
  clear hC hq hk
  go_enter Tryd.func68, Tryd.ntmps68
  go_wp2_with fail
  refine HV.out.mono ?_
  rintro e w' ⟨rfl, m, rfl⟩
  cases q with
  | false =>
    obtain rfl := HE0.out rfl
    go_wp2_with fail
    go_ret
    exact ⟨rfl, _, rfl⟩
  | true =>
    have HE2 := Lib.hid (HE1.out rfl)
    by_cases h2 : k = 2
    · have hc : C = 0 := by rw [HE2.out, if_pos h2]
      subst hc
      subst h2
      go_wp2_with fail
      go_ret
      exact ⟨rfl, _, rfl⟩
    · have hc : C = 2 := by rw [HE2.out, if_neg h2]
      subst hc
      have hk1 : (k != 2) = true := by simpa using h2
      go_wp2_with fail
      go_ret
      exact ⟨rfl, _, rfl⟩


set_option maxHeartbeats 8000000 in
theorem wordTwoS (r : R) (u : ByteArray) (hu : u.size ≤ maxLen) (bp : Nat) (w : World) (B : Nat) (h : RelPtr w B bp r) :
    Calls Tryd.prog 40 #[.pointer (some ⟨bp, 0, none⟩), .string u] w fun e w' => e = .returned (.int .i64 (partC r u)) ∧ ∃ m, w' = w.drewN m := by
  have HV := Lib.hid (specOk r bp w B h)
  have HT := Lib.hid (fun m => twoS r bp (w.drewN m) B (h.drewN m))
  have HWD := Lib.hid (fun W => specWord u W hu)
  have HE0 := Lib.hid (show okB r = false → partC r u = 1 from fun h => by simp [partC, pairC, h])
  have HE1 := Lib.hid (show wordB u = false → partC r u = 1 from fun h => by simp [partC, h])
  have HE2 := Lib.hid (show wordB u = true → partC r u = pairC r from fun h => by unfold partC; rw [if_pos h])
  obtain ⟨C, hC⟩ : ∃ y, y = partC r u := ⟨_, rfl⟩
  obtain ⟨P, hP⟩ : ∃ y, y = pairC r := ⟨_, rfl⟩
  obtain ⟨q, hq⟩ : ∃ y, y = okB r := ⟨_, rfl⟩
  obtain ⟨qw, hqw⟩ : ∃ y, y = wordB u := ⟨_, rfl⟩
  rw [← hC, ← hq] at HE0
  rw [← hC, ← hqw] at HE1 HE2
  rw [← hP] at HE2 HT
  rw [← hq] at HV
  rw [← hqw] at HWD
  rw [← hC]
  clear hC hP hq hqw h hu
  go_enter Tryd.func40, Tryd.ntmps40
  go_wp2_with fail
  refine HV.out.mono ?_
  rintro e w' ⟨rfl, m, rfl⟩
  cases q with
  | false =>
    obtain rfl := HE0.out rfl
    go_wp2_with fail
    go_ret
    exact ⟨rfl, _, rfl⟩
  | true =>
    cases qw with
    | false =>
      obtain rfl := HE1.out rfl
      go_wp2_with (go_at_call 20; refine (HWD.out _).mono ?_; rintro e w' ⟨rfl, rfl⟩)
      go_ret
      exact ⟨rfl, _, rfl⟩
    | true =>
      obtain rfl := HE2.out rfl
      have HT1 := Lib.hid (HT.out m)
      go_wp2_with (go_at_call 20; refine (HWD.out _).mono ?_; rintro e w' ⟨rfl, rfl⟩)
      refine HT1.out.mono ?_
      rintro e w' ⟨rfl, m2, hw2⟩
      go_wp2_with fail
      go_ret
      exact ⟨rfl, _, rfl⟩

set_option maxHeartbeats 8000000 in
theorem specPart (v : Value) (r : R) (u : ByteArray) (hu : u.size ≤ maxLen) (w : World) (B : Nat) (h : RelAt w B v r) (hB : B ≤ w.heap.size) :
    Calls Tryd.prog 13 #[v, .string u] w fun e w' => ∃ va vn, e = .returned (.tuple #[.agg #[.int .i64 (parK r u), .int .i64 0, va, vn], .int .i64 (parC r u)]) ∧ Built w' w.heap.size va vn (parA r u) (parN r u) ∧ Below w.heap.size w w' := by
  have hR := h
  have HV := Lib.hid (fun W bp (hp : RelPtr W W.heap.size bp r) => wordTwoS r u hu bp W W.heap.size hp)
  have HFX := Lib.hid (fun (hp : partC r u = 0) W (hb : Below w.heap.size w W) => (show Calls Tryd.prog 7 #[v, .int .i64 0, .string u] W fun e w' => ∃ va vn, e = .returned (.tuple #[.agg #[.int .i64 (parK r u), .int .i64 0, va, vn], .int .i64 (parC r u)]) ∧ Built w' W.heap.size va vn (parA r u) (parN r u) ∧ Below W.heap.size W w' from by
    obtain ⟨y1, y2, y3, y4⟩ := par_yes hp
    rw [y1, y2, y3, y4]
    exact FixS.specFix v r 0 u hu W W.heap.size ((h.below hb hB).mono (Nat.le_trans hB hb.size)) (Nat.le_refl _)))
  have HN0 := Lib.hid (fun h0 => par_no (r := r) (u := u) h0)
  obtain ⟨C0, hC0⟩ : ∃ y, y = partC r u := ⟨_, rfl⟩
  obtain ⟨cC, hcC⟩ : ∃ y, y = parC r u := ⟨_, rfl⟩
  obtain ⟨cK, hcK⟩ : ∃ y, y = parK r u := ⟨_, rfl⟩
  obtain ⟨cA, hcA⟩ : ∃ y, y = parA r u := ⟨_, rfl⟩
  obtain ⟨cN, hcN⟩ : ∃ y, y = parN r u := ⟨_, rfl⟩
  rw [← hC0, ← hcC, ← hcK, ← hcA, ← hcN] at HFX HN0
  rw [← hC0] at HV
  rw [← hcC, ← hcK, ← hcA, ← hcN]
  clear hC0 hcC hcK hcA hcN hu
  obtain ⟨va, vn, rfl, ha, hx⟩ := h
  have HPTR := Lib.hid (fun W (hW : K0 w #[.int .i64 r.tapes, .int .i64 r.start, va, vn] W) => box_ptr hR hB (K0.base hW) (K0.box hW))
  obtain ⟨aa, ba, oa, ca, rfl, -, -, -⟩ := ha
  obtain ⟨-, ⟨ab, bb, ob, cb, rfl, -, -, -⟩, -⟩ := hx
  obtain ⟨k, hk⟩ : ∃ k : Int, k = r.tapes := ⟨_, rfl⟩
  obtain ⟨st, hs⟩ : ∃ st : Int, st = r.start := ⟨_, rfl⟩
  obtain ⟨na, hna⟩ : ∃ na, na = r.accept.length := ⟨_, rfl⟩
  obtain ⟨nb, hnb⟩ : ∃ nb, nb = r.next.length := ⟨_, rfl⟩
  rw [← hk, ← hs, ← hna, ← hnb] at HPTR HFX
  rw [← hk, ← hs, ← hna, ← hnb]
  have HK0 := Lib.hid (show K0 w #[.int .i64 k, .int .i64 st, .slice aa na ca, .slice ab nb cb] ((w.alloc (.cells #[.int .i64 k, .int .i64 st, .slice aa na ca, .slice ab nb cb] 27)).alloc (.cells #[Value.int .i64 0, .int .i64 0, .slice none 0 0, .slice none 0 0] 27)) from Below.refl _ _)
  have HV1 := Lib.hid (HV.out _ _ (HPTR.out _ HK0.out))
  have HST := Lib.hid (fun W W' (h : K0 w #[.int .i64 k, .int .i64 st, .slice aa na ca, .slice ab nb cb] W) (hb : Below W.heap.size W W') => (show K0 w #[.int .i64 k, .int .i64 st, .slice aa na ca, .slice ab nb cb] W' from Below.trans h (hb.mono (K0.size h))))
  clear hk hs hna hnb HV hB hR HPTR
  go_enter Tryd.func13, Tryd.ntmps13
  go_wp2_with fail
  refine HV1.out.mono ?_
  rintro e w3 ⟨rfl, mq, hw3⟩
  have hk3 : K0 w #[.int .i64 k, .int .i64 st, .slice aa na ca, .slice ab nb cb] w3 := by rw [hw3]; exact below_drewN HK0.out mq
  have HK3 := Lib.hid hk3
  have r0 := cells_get (K0.res hk3) 0
  have r1 := cells_get (K0.res hk3) 1
  have r2 := cells_get (K0.res hk3) 2
  have r3 := cells_get (K0.res hk3) 3
  have f0 := cells_free (K0.res hk3) 0
  have f1 := cells_free (K0.res hk3) 1
  have f2 := cells_free (K0.res hk3) 2
  have f3 := cells_free (K0.res hk3) 3
  have hlS := lt_of_block (K0.res hk3)
  have x0 := cells_get (K0.box hk3) 0
  have x1 := cells_get (K0.box hk3) 1
  have x2 := cells_get (K0.box hk3) 2
  have x3 := cells_get (K0.box hk3) 3
  have hlB := lt_of_block (K0.box hk3)
  simp at r0 r1 r2 r3 x0 x1 x2 x3
  clear hw3 hk3 HV1 HK0
  by_cases h0 : C0 = 0
  · have HX1 := Lib.hid (HFX.out h0)
    subst h0
    clear HN0 HFX
    go_wp2_with (go_at_call 7; refine (HX1.out _ (K0.base HK3.out)).mono ?_; rintro e w6 ⟨va, vn, rfl, hbu, hb6⟩; have HBU := Lib.hid (hbu.mono (K0.size HK3.out)); obtain ⟨a5, n5', c5, rfl, -⟩ := hbu.acc.shape'; obtain ⟨items5, -, hnx5, -⟩ := hbu.rows; obtain ⟨b5, m5, d5, rfl, -⟩ := hnx5.shape'; have HK6 := Lib.hid (HST.out _ _ HK3.out hb6); clear r0 r1 r2 r3 f0 f1 f2 f3 hlS x0 x1 x2 x3 hlB; have r0 := cells_get (K0.res HK6.out) 0; have r1 := cells_get (K0.res HK6.out) 1; have r2 := cells_get (K0.res HK6.out) 2; have r3 := cells_get (K0.res HK6.out) 3; have f0 := cells_free (K0.res HK6.out) 0; have f1 := cells_free (K0.res HK6.out) 1; have f2 := cells_free (K0.res HK6.out) 2; have f3 := cells_free (K0.res HK6.out) 3; have hlS := lt_of_block (K0.res HK6.out); simp at r0 r1 r2 r3; clear hbu hb6 hnx5)
    obtain ⟨g0, g1, g2, g3⟩ := res4 (a := .int .i64 cK) (b := .int .i64 0) (c := .slice a5 n5' c5) (d := .slice b5 m5 d5) (K0.res HK6.out)
    refine bodyPost_ret (v := .tuple #[.agg #[.int .i64 cK, .int .i64 0, .slice a5 n5' c5, .slice b5 m5 d5], .int .i64 cC]) (by simp [results, Tryd.results13, go_sem, g0, g1, g2, g3]) rfl ⟨.slice a5 n5' c5, .slice b5 m5 d5, rfl, ?_, ?_⟩
    · exact (set4_built HBU.out (by omega)).mono (by omega)
    · exact set4_below (K0.base HK6.out) (Nat.le_succ _)
  · obtain ⟨rfl, rfl, rfl, rfl⟩ := HN0.out h0
    have hcne : (cC != 0) = true := by simpa using h0
    clear HN0 HFX
    go_wp2_with fail
    obtain ⟨g0, g1, g2, g3⟩ := res4 (a := .int .i64 0) (b := .int .i64 0) (c := .slice none 0 0) (d := .slice none 0 0) (K0.res HK3.out)
    refine bodyPost_ret (v := .tuple #[.agg #[.int .i64 0, .int .i64 0, .slice none 0 0, .slice none 0 0], .int .i64 cC]) (by simp [results, Tryd.results13, go_sem, g0, g1, g2, g3]) rfl ⟨.slice none 0 0, .slice none 0 0, rfl, ImplTidied.built_none _ _, ?_⟩
    exact set4_below (K0.base HK3.out) (Nat.le_succ _)
end Go.Proofs.YtcpcbmappcndcaaDoor.PartS
