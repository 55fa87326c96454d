
/- The rule of the automaton that has a word on one tape: what the program's function for it answers.
   Conditions: stated at each theorem. -/
import Derived.Test.YtcpcbmappcndcaaDoorFX10
import Derived.Test.YtcpcbmappcndcaaDoorFX21
import Derived.Test.YtcpcbmappcndcaaDoorFX11
import Derived.Deep.RegionWith
import Derived.Deep.RegionHeld3
import Derived.Deep.DeepCutAuto
import Derived.Deep.CutBlock
import Derived.Test.YtcpcbmappcndcaaDoorFX9
import Derived.BigQuiet
import Derived.Deep.QuietTactic
import Derived.Test.YtcpcbmappcndcaaDoorFX6
namespace Go.Proofs.YtcpcbmappcndcaaDoor.FixRule
set_option linter.unusedVariables false
set_option linter.unusedSimpArgs false
set_option maxRecDepth 100000
open Go.RowKit Go.Maps Mem Copy Rel Valid Heap Bld Columns ColMath SpecFiner Numbers TidyMath TidyRight SpecRight Automaton TapeMath WithMath Reread WithI WordMath Digs

theorem with_letters {j a d c : Nat} (h1 : 1 ≤ j) (h2 : j ≤ 2) (ha : a ≤ j) (hd : d ≤ 2) (hc : c ≤ wide j) :
    lettersV (j + 1) (withN (j + 1) a d c : Nat) = .agg #[.int .u8 (if a = 0 then letA d else letT j c 0), .int .u8 (if a = 0 then letT j c 0 else if a = 1 then letA d else letT j c 1), .int .u8 (if a = 2 then letA d else letT j c 1)] := by
  have hf := (with_fin h1 h2 ha hd hc).2.2
  have e : ∀ t, t < 3 → letT (j + 1) (withN (j + 1) a d c : Nat) t = letJ a d j c t := fun t ht => (hf t ht).symm
  unfold lettersV
  rw [e 0 (by omega), e 1 (by omega), e 2 (by omega)]
  unfold letJ
  have : a = 0 ∨ a = 1 ∨ a = 2 := by omega
  rcases this with rfl | rfl | rfl <;> simp

theorem look_plain {w : World} {b n : Nat} {D : DataW Unit} {key : Value} {kl : Lit} (hown : w.ownsMap Tryd.prog 82 (plainElem Tryd.prog 2) b n D) (hkey : keyOf Tryd.prog 82 key = some kl) (c0 : Int)
    (hat : D.atKey kl (.lit (.int .i64 0)) = .lit (.int .i64 c0)) :
    (Instr.lookup 77 (.map (some b)) key false).run Tryd.prog w = .ok (.int .i64 c0) w := by
  obtain ⟨c, hrun, hc, -⟩ := hown.lookup_int Numbers.law Tryd.underlying77 Tryd.underlying2 (zero2 w) hkey
  rw [hat] at hc
  injection hc with hc
  injection hc with _ hc
  rw [hrun, hc]
theorem look0 {K : Value → Lit} (hK : Keys K) (k : Nat) (h1 : 1 ≤ k) (h3 : k ≤ 3) {w : World} {b : Nat} (hown : w.ownsMap Tryd.prog 82 (plainElem Tryd.prog 2) b (widN k) (Numbers.D K k (widN k))) (c : Nat) (hc : c < wide k) :
    (Instr.lookup 77 (.map (some b)) (lettersV k c) false).run Tryd.prog w = .ok (.int .i64 (c : Int)) w := by
  rw [← widN_eq h1 h3] at hc
  exact look_plain hown (keyV hK k _) _ (D_at hK k h1 h3 c _ hc (Nat.le_refl _))

theorem wrap_small (n : Nat) (h : n ≤ 1000000) : IntKind.i64.wrap ((n : Nat) : Int) = (n : Int) ∧ wrap64 ((n : Nat) : Int) = (n : Int) := ⟨by rw [IntKind.wrap_i64]; omega, by unfold wrap64; omega⟩

set_option maxHeartbeats 8000000 in
theorem fixRule (l : L) (hl : l.Ok) (h2 : 2 ≤ l.k) (tape : Nat) (ht : tape < l.k) (u : ByteArray) (hu : wordB u = true) (hbig : l.acc.length * (u.size + 1) ≤ 1000) (s c : Nat) (hs : s < l.acc.length * (u.size + 1)) (hc : c < wide (l.k - 1)) {K : Value → Lit} (hK : Keys K) (b2 b3 b4 b5 b6 mb : Nat) (vn : Value)
    (W : World) (B : Nat) (hB : B ≤ W.heap.size) (hm2 : b2 < B) (hm3 : b3 < B) (hm4 : b4 < B) (hm5 : b5 < B) (hm6 : b6 < B) (hmb : mb < B)
    (h2c : W.cell? ⟨b2, 0, none⟩ = some (.int .i64 (u.size : Nat))) (h3c : W.cell? ⟨b3, 0, none⟩ = some (.string u)) (h4c : W.cell? ⟨b4, 3, none⟩ = some vn) (h5c : W.cell? ⟨b5, 0, none⟩ = some (.map (some mb))) (h6c : W.cell? ⟨b6, 0, none⟩ = some (.int .i64 tape))
    (hown : W.ownsMap Tryd.prog 82 (plainElem Tryd.prog 2) mb (widN l.k) (Numbers.D K l.k (widN l.k))) (hn : IntRows W B vn (l.nx.map ofN)) :
    Calls Tryd.prog 63 #[.int .i64 s, lettersV (l.k - 1) c, .pointer (some ⟨b2, 0, none⟩), .pointer (some ⟨b3, 0, none⟩), .pointer (some ⟨b4, 0, none⟩), .pointer (some ⟨b5, 0, none⟩), .pointer (some ⟨b6, 0, none⟩)] W fun e w' => e = .returned (.int .i64 ((fixR l tape (digs u) (s / (u.size + 1)) (s % (u.size + 1)) c : Nat) : Int)) ∧ Below W.heap.size W w' := by
  have hk3 := hl.k3
  obtain ⟨m, hm⟩ : ∃ m, m = u.size := ⟨_, rfl⟩
  rw [← hm] at hs h2c hbig ⊢
  obtain ⟨p, hp⟩ : ∃ p, p = s / (m + 1) := ⟨_, rfl⟩
  obtain ⟨i, hi⟩ : ∃ i, i = s % (m + 1) := ⟨_, rfl⟩
  have hsp : s = p * (m + 1) + i := by rw [hp, hi, Nat.mul_comm]; exact (Nat.div_add_mod s (m + 1)).symm
  have him : i ≤ m := by have h := Nat.mod_lt s (Nat.succ_pos m); rw [← Nat.add_one, ← hi] at h; omega
  have hpl : p < l.acc.length := by rw [hp, Nat.div_lt_iff_lt_mul (Nat.succ_pos _)]; exact hs
  have hm40 : m ≤ 40 := by rw [hm]; exact word_len hu
  obtain ⟨d, hd⟩ : ∃ d, d = (digs u).getD i 2 := ⟨_, rfl⟩
  have hd2 : d ≤ 2 := by rw [hd]; exact getD_le2 (digs_lt u) i
  obtain ⟨y, hy⟩ : ∃ y, y = withN l.k tape d c := ⟨_, rfl⟩
  have hyl : y < wide l.k := by rw [hy, hd]; exact fix_col hl h2 ht (digs_lt u) i hc
  obtain ⟨z, hz⟩ : ∃ z, z = (l.nx.getD p []).getD y 0 := ⟨_, rfl⟩
  have hzl : z < l.acc.length := by rw [hz]; exact hl.lt p hpl y hyl
  have HRES := Lib.hid (show fixR l tape (digs u) p i c = z * (m + 1) + min (i + 1) m from by
    unfold fixR
    rw [digs_len, ← hm, ← hd, ← hy, ← hz])
  have HLET := Lib.hid (show (i < m → (∃ hi' : i < u.size, (u[i].toNat : Int) = letA d)) ∧ (¬ i < m → (35 : Int) = letA d) from by
    refine ⟨fun h => ?_, fun h => ?_⟩
    · have hi' : i < u.size := by rw [← hm]; exact h
      obtain ⟨d', hd', e1, -, e2⟩ := digs_get hu hi'
      refine ⟨hi', ?_⟩
      rw [e2, hd, e1]
      have : d' = 0 ∨ d' = 1 := by omega
      rcases this with rfl | rfl <;> rfl
    · have : d = 2 := by
        rw [hd, List.getD_eq_getElem?_getD, List.getElem?_eq_none (by rw [digs_len, ← hm]; omega)]; rfl
      rw [this]; rfl)
  have HWL := Lib.hid (show lettersV l.k y = .agg #[.int .u8 (if tape = 0 then letA d else letT (l.k - 1) c 0), .int .u8 (if tape = 0 then letT (l.k - 1) c 0 else if tape = 1 then letA d else letT (l.k - 1) c 1), .int .u8 (if tape = 2 then letA d else letT (l.k - 1) c 1)] from by
    obtain ⟨j, hj⟩ : ∃ j, l.k = j + 1 := ⟨l.k - 1, by omega⟩
    rw [hy, hj]
    rw [hj] at hc
    exact with_letters (by omega) (by omega) (by omega) hd2 (Nat.le_of_lt hc))
  obtain ⟨V, hsl, hrows⟩ := hn
  have hlen : (l.nx.map ofN).length = l.acc.length := by rw [List.length_map, hl.len]
  have hrow := hrows p (by rw [hlen]; exact hpl)
  have hget : (l.nx.map ofN).getD p [] = ofN (l.nx.getD p []) := by
    have h1 : p < l.nx.length := by rw [hl.len]; exact hpl
    simp [List.getD, h1]
  rw [hget] at hrow
  obtain ⟨an, bn, on, cn, rfl, hmn, han, hcn⟩ := hsl
  obtain ⟨rfl, hbn⟩ := han (by rw [hlen]; omega)
  have hrl : (ofN (l.nx.getD p [])).length = wide l.k := by rw [ofN_length, hl.row p hpl]
  have hw0 : 0 < wide l.k := by omega
  obtain ⟨ar, br, or, cr, hvr, hmr, har, hcr⟩ := hrow
  rw [hrl] at hvr hmr har hcr
  obtain ⟨rfl, hbr⟩ := har hw0
  rw [hlen] at hmn hcn
  have HF := Lib.hid (fun W' (hb : Below B W W') => (show W'.cell? ⟨b2, 0, none⟩ = some (.int .i64 (m : Nat)) ∧ W'.cell? ⟨b3, 0, none⟩ = some (.string u) ∧ W'.cell? ⟨b4, 3, none⟩ = some (.slice (some ⟨bn, on, none⟩) l.acc.length cn) ∧ W'.cell? ⟨b5, 0, none⟩ = some (.map (some mb)) ∧ W'.cell? ⟨b6, 0, none⟩ = some (.int .i64 tape) ∧
      W'.cell? ⟨bn, on + p, none⟩ = some (.slice (some ⟨br, or, none⟩) (wide l.k) cr) ∧ W'.cell? ⟨br, or + y, none⟩ = some (.int .i64 (z : Nat)) from by
    refine ⟨(hb.cell hm2).trans h2c, (hb.cell hm3).trans h3c, (hb.cell hm4).trans (by rw [h4c, hlen]), (hb.cell hm5).trans h5c, (hb.cell hm6).trans h6c, ?_, ?_⟩
    · rw [hb.cell (p := ⟨bn, on + p, none⟩) hbn, hcn p hpl, hvr]
    · rw [hb.cell (p := ⟨br, or + y, none⟩) hbr, hcr y hyl]
      show some (Value.int .i64 ((ofN (l.nx.getD p [])).getD y 0)) = _
      rw [ofN_get _ (by rw [hl.row p hpl]; exact hyl), hz]))
  have HLK := Lib.hid (fun W' (hb : Below B W W') => look0 hK l.k (by omega) hk3 (ownsMap_of hown (hb.block mb hmb)) y hyl)
  obtain ⟨x0, hx0⟩ : ∃ x, x = letT (l.k - 1) c 0 := ⟨_, rfl⟩
  obtain ⟨x1, hx1⟩ : ∃ x, x = letT (l.k - 1) c 1 := ⟨_, rfl⟩
  obtain ⟨x2, hx2⟩ : ∃ x, x = letT (l.k - 1) c 2 := ⟨_, rfl⟩
  obtain ⟨ld, hld⟩ : ∃ x, x = letA d := ⟨_, rfl⟩
  rw [← hx0, ← hx1, ← hld] at HWL
  rw [← hld] at HLET
  have ev : lettersV (l.k - 1) c = .agg #[.int .u8 x0, .int .u8 x1, .int .u8 x2] := by rw [hx0, hx1, hx2]; rfl
  have HWI := Lib.hid (fun W' => withAny x0 x1 x2 ld tape (by omega) W')
  rw [← HWL.out] at HWI
  obtain ⟨v, hv⟩ : ∃ v, v = lettersV l.k y := ⟨_, rfl⟩
  rw [← hv] at HLK HWI
  obtain ⟨wk, hwk⟩ : ∃ x, x = wide l.k := ⟨_, rfl⟩
  rw [← hwk] at HF hyl hw0 hmr
  obtain ⟨n, hnn⟩ : ∃ x, x = l.acc.length := ⟨_, rfl⟩
  rw [← hnn] at HF hpl hzl hmn hbig
  rw [← hp, ← hi, HRES.out, ev]
  have hzm : z * (m + 1) + (m + 1) ≤ 1000 := by
    have h1 := Nat.mul_le_mul_right (m + 1) (Nat.succ_le_of_lt hzl)
    rw [Nat.succ_mul] at h1
    omega
  have hpm : p * (m + 1) ≤ 1000 := by
    have h1 := Nat.mul_le_mul_right (m + 1) (Nat.le_of_lt hpl)
    omega
  have hw1 : IntKind.i64.wrap ((m : Int) + 1) = (m : Int) + 1 := (wrap_small (m + 1) (by omega)).1
  have hdq : (s : Int).tdiv ((m : Int) + 1) = (p : Int) := by
    rw [hp, show ((m : Int) + 1) = ((m + 1 : Nat) : Int) from rfl]; exact (Int.ofNat_tdiv _ _).symm
  have hmq : (s : Int).tmod ((m : Int) + 1) = (i : Int) := by
    rw [hi, show ((m : Int) + 1) = ((m + 1 : Nat) : Int) from rfl]; exact (Int.ofNat_tmod _ _).symm
  have hcz : (z : Int) * ((m : Int) + 1) = ((z * (m + 1) : Nat) : Int) := by push_cast; rfl
  have hw2 : IntKind.i64.wrap ((z : Int) * ((m : Int) + 1)) = (z : Int) * ((m : Int) + 1) := by rw [hcz]; exact (wrap_small _ (by omega)).1
  have hw3 : IntKind.i64.wrap ((i : Int) + 1) = (i : Int) + 1 := (wrap_small (i + 1) (by omega)).1
  have HW4 := Lib.hid (show i < m → wrap64 ((z : Int) * ((m : Int) + 1) + ((i : Int) + 1)) = ((z * (m + 1) + min (i + 1) m : Nat) : Int) from fun h => by
    rw [hcz, show ((z * (m + 1) : Nat) : Int) + ((i : Int) + 1) = ((z * (m + 1) + min (i + 1) m : Nat) : Int) by omega]
    exact (wrap_small _ (by omega)).2)
  have HW5 := Lib.hid (show ¬ i < m → wrap64 ((z : Int) * ((m : Int) + 1) + (m : Int)) = ((z * (m + 1) + min (i + 1) m : Nat) : Int) from fun h => by
    rw [hcz, show ((z * (m + 1) : Nat) : Int) + (m : Int) = ((z * (m + 1) + min (i + 1) m : Nat) : Int) by omega]
    exact (wrap_small _ (by omega)).2)
  clear hcz
  have HBd := Lib.hid (show Below B W ((W.alloc (.cells #[.int .u8 x0, .int .u8 x1, .int .u8 x2] 82)).drew) from ((Below.refl _ W).alloc hB _).drew)
  have HK0 := Lib.hid (show Below (W.heap.size + 1) (W.alloc (.cells #[.int .u8 x0, .int .u8 x1, .int .u8 x2] 82)) (W.alloc (.cells #[.int .u8 x0, .int .u8 x1, .int .u8 x2] 82)) from Below.refl _ _)
  have HKF := Lib.hid (fun W' (hk : Below (W.heap.size + 1) (W.alloc (.cells #[.int .u8 x0, .int .u8 x1, .int .u8 x2] 82)) W') => (show W'.heap[W.heap.size]? = some (.cells #[.int .u8 x0, .int .u8 x1, .int .u8 x2] 82 (0, 0)) ∧ W.heap.size + 1 ≤ W'.heap.size ∧ Below W.heap.size W W' from
    ⟨(hk.block _ (Nat.lt_succ_self _)).trans (heap_alloc_new _ _), by have := hk.size; rwa [size_alloc'] at this, ((Below.refl _ _).alloc (Nat.le_refl _) _).trans (hk.mono (Nat.le_succ _))⟩))
  have HBM := Lib.hid (And.intro hB (And.intro hm2 (And.intro hm3 (And.intro hm4 (And.intro hm5 (And.intro hm6 (And.intro hmb (And.intro hbn hbr))))))))
  have HHP := Lib.hid (And.intro hpl (And.intro hyl (And.intro hpm hzm)))
  clear ev hx0 hx1 hx2 hld hv hwk hnn hrows hvr har han hget hlen hrl h2c h3c h4c h5c h6c hown hK hm hp hi hsp hd hy hz hbn hbr hB hm2 hm3 hm4 hm5 hm6 hmb hcn hcr hmr hmn HRES HWL hbig
  go_enter Tryd.func63, Tryd.ntmps63
  obtain ⟨gB, g2, g3, g4, g5, g6, gm, gn, gr⟩ := HBM.out
  obtain ⟨q2, q3, -, -, -, -, -⟩ := HF.out _ HBd.out
  have k2 : b2 < W.heap.size := by omega
  have k3 : b3 < W.heap.size := by omega
  have hp1 : p ≤ 1000 := Nat.le_trans (Nat.le_mul_of_pos_right _ (Nat.succ_pos m)) hpm
  have hwp : wrap64 ((p : Nat) : Int) = (p : Int) := (wrap_small p (Nat.le_trans hp1 (by decide))).2
  have hwp2 : IntKind.i64.wrap ((p : Nat) : Int) = (p : Int) := (wrap_small p (Nat.le_trans hp1 (by decide))).1
  have HKD := Lib.hid (show Below (W.heap.size + 1) (W.alloc (.cells #[.int .u8 x0, .int .u8 x1, .int .u8 x2] 82)) ((W.alloc (.cells #[.int .u8 x0, .int .u8 x1, .int .u8 x2] 82)).drew.drew) from below_drewN (Below.refl _ _) 2)
  go_upto_region 1 with fail
  go_cut [10, 11] (fun v10 v11 wx => v10 = .int .i64 p ∧ v11 = .int .i64 i ∧ wx = (W.alloc (.cells #[.int .u8 x0, .int .u8 x1, .int .u8 x2] 82)).drew)
  case first =>
    go_region_with fail
    all_goals
      go_wp2_with fail
      go_meet
      first | exact ⟨rfl, rfl, rfl⟩ | exact ⟨by rw [hwp2], rfl, rfl⟩ | exact ⟨by rw [hwp], rfl, rfl⟩
  case rest =>
    obtain ⟨rfl, rfl, rfl⟩ := hcut
    clear hdq hmq hwp q2 q3
    have HBd2 := Lib.hid (show Below B W ((W.alloc (.cells #[.int .u8 x0, .int .u8 x1, .int .u8 x2] 82)).drew.drew) from HBd.out.drew)
    obtain ⟨q2, q3, -⟩ := HF.out _ HBd.out
    have k2 : b2 < W.heap.size := by omega
    have k3 : b3 < W.heap.size := by omega
    obtain ⟨hpl, hyl, -, -⟩ := HHP.out
    have HSD := Lib.hid (show ((W.alloc (.cells #[.int .u8 x0, .int .u8 x1, .int .u8 x2] 82)).drew.drew).heap.size = W.heap.size + 1 from size_alloc' _ _)
    have HS5 := Lib.hid (fun W' (h1 : Below B W W') (h2 : Below (W.heap.size + 1) (W.alloc (.cells #[.int .u8 x0, .int .u8 x1, .int .u8 x2] 82)) W') => (show W'.cell? ⟨b4, 3, none⟩ = some (.slice (some ⟨bn, on, none⟩) n cn) ∧ W'.cell? ⟨b5, 0, none⟩ = some (.map (some mb)) ∧ W'.cell? ⟨b6, 0, none⟩ = some (.int .i64 tape) ∧ W'.cell? ⟨bn, on + p, none⟩ = some (.slice (some ⟨br, or, none⟩) wk cr) ∧ W'.cell? ⟨br, or + y, none⟩ = some (.int .i64 (z : Nat)) ∧ W'.cell? ⟨W.heap.size, 0, none⟩ = some (.int .u8 x0) ∧ W'.cell? ⟨W.heap.size, 1, none⟩ = some (.int .u8 x1) ∧ W'.cell? ⟨W.heap.size, 2, none⟩ = some (.int .u8 x2) from by
      obtain ⟨-, -, r4, r5, r6, rn, rr⟩ := HF.out W' h1
      obtain ⟨hx, -, -⟩ := HKF.out W' h2
      exact ⟨r4, r5, r6, rn, rr, by rw [cells_get hx]; rfl, by rw [cells_get hx]; rfl, by rw [cells_get hx]; rfl⟩))
    by_cases hlt : i < m
    · have hf1 := HW4.out hlt
      obtain ⟨hi', hch⟩ := HLET.out.1 hlt
      go_upto_region 5 with fail
      go_region_held3 (fun w' => w'.cell? ⟨b4, 3, none⟩ = some (.slice (some ⟨bn, on, none⟩) n cn) ∧ w'.cell? ⟨b5, 0, none⟩ = some (.map (some mb)) ∧ w'.cell? ⟨b6, 0, none⟩ = some (.int .i64 tape) ∧ w'.cell? ⟨bn, on + p, none⟩ = some (.slice (some ⟨br, or, none⟩) wk cr) ∧ w'.cell? ⟨br, or + y, none⟩ = some (.int .i64 (z : Nat)) ∧ w'.cell? ⟨W.heap.size, 0, none⟩ = some (.int .u8 x0) ∧ w'.cell? ⟨W.heap.size, 1, none⟩ = some (.int .u8 x1) ∧ w'.cell? ⟨W.heap.size, 2, none⟩ = some (.int .u8 x2))
        (first | exact HS5.out _ HBd2.out HKD.out | exact HS5.out _ HB3.out HK3.out | go_keep)
        ((refine (HWI.out _).mono ?_; rintro e w3 ⟨rfl, hb3⟩; have HB3 := Lib.hid (show Below B W w3 from HBd2.out.trans (Below.mono hb3 (Nat.le_trans gB (by rw [HSD.out]; exact Nat.le_succ _)))); rw [HSD.out] at hb3; have HK3 := Lib.hid (show Below (W.heap.size + 1) (W.alloc (.cells #[.int .u8 x0, .int .u8 x1, .int .u8 x2] 82)) w3 from Below.trans HKD.out hb3); obtain ⟨-, hs3, hbas⟩ := HKF.out w3 HK3.out; have HBAS := Lib.hid hbas; have hlk := HLK.out w3 HB3.out; clear hb3 hbas))
      all_goals
        obtain ⟨p2, -, -, -, -, -, -⟩ := HF.out w3 HB3.out
        have l2 : b2 < w3.heap.size := by omega
        go_wp2_with fail
        go_ret
        exact ⟨by first | (show Ending.returned (Value.int .i64 (wrap64 ((z : Int) * ((m : Int) + 1) + ((i : Int) + 1)))) = _; rw [hf1]) | (show Ending.returned (Value.int .i64 (wrap64 ((z : Int) * ((m : Int) + 1) + (m : Int)))) = _; rw [hf1]), HBAS.out⟩
    · have hf1 := HW5.out hlt
      have hch := HLET.out.2 hlt
      subst hch
      go_upto_region 5 with fail
      go_region_held3 (fun w' => w'.cell? ⟨b4, 3, none⟩ = some (.slice (some ⟨bn, on, none⟩) n cn) ∧ w'.cell? ⟨b5, 0, none⟩ = some (.map (some mb)) ∧ w'.cell? ⟨b6, 0, none⟩ = some (.int .i64 tape) ∧ w'.cell? ⟨bn, on + p, none⟩ = some (.slice (some ⟨br, or, none⟩) wk cr) ∧ w'.cell? ⟨br, or + y, none⟩ = some (.int .i64 (z : Nat)) ∧ w'.cell? ⟨W.heap.size, 0, none⟩ = some (.int .u8 x0) ∧ w'.cell? ⟨W.heap.size, 1, none⟩ = some (.int .u8 x1) ∧ w'.cell? ⟨W.heap.size, 2, none⟩ = some (.int .u8 x2))
        (first | exact HS5.out _ HBd2.out HKD.out | exact HS5.out _ HB3.out HK3.out | go_keep)
        ((refine (HWI.out _).mono ?_; rintro e w3 ⟨rfl, hb3⟩; have HB3 := Lib.hid (show Below B W w3 from HBd2.out.trans (Below.mono hb3 (Nat.le_trans gB (by rw [HSD.out]; exact Nat.le_succ _)))); rw [HSD.out] at hb3; have HK3 := Lib.hid (show Below (W.heap.size + 1) (W.alloc (.cells #[.int .u8 x0, .int .u8 x1, .int .u8 x2] 82)) w3 from Below.trans HKD.out hb3); obtain ⟨-, hs3, hbas⟩ := HKF.out w3 HK3.out; have HBAS := Lib.hid hbas; have hlk := HLK.out w3 HB3.out; clear hb3 hbas))
      all_goals
        obtain ⟨p2, -, -, -, -, -, -⟩ := HF.out w3 HB3.out
        have l2 : b2 < w3.heap.size := by omega
        go_wp2_with fail
        go_ret
        exact ⟨by first | (show Ending.returned (Value.int .i64 (wrap64 ((z : Int) * ((m : Int) + 1) + ((i : Int) + 1)))) = _; rw [hf1]) | (show Ending.returned (Value.int .i64 (wrap64 ((z : Int) * ((m : Int) + 1) + (m : Int)))) = _; rw [hf1]), HBAS.out⟩
end Go.Proofs.YtcpcbmappcndcaaDoor.FixRule
/- Whether the rest of a word on a tape is taken from a state on, and the code of a tape that is left out: what the model's l02Rest and l02Fewer answer.
   Conditions: stated at each theorem. -/
namespace Go.Proofs.YtcpcbmappcndcaaDoor.RestS
set_option linter.unusedVariables false
set_option linter.unusedSimpArgs false
set_option linter.ambiguousOpen false
set_option maxRecDepth 100000
open Go.RowKit Mem Copy Rel Valid Heap Bld Columns ColMath SpecFiner SpecRight TidyAuto TidyRight TapeMath WithMath WordMath Digs PutS WithS DropI

set_option maxHeartbeats 8000000 in
theorem restS (l : L) (hl : l.Ok) (h2 : 2 ≤ l.k) (tape : Nat) (ht : tape < l.k) (s0 : Nat) (hs0 : s0 < l.acc.length) (u : ByteArray) (hu : wordB u = true) (bp : Nat) (w : World) (B : Nat) (h : RelPtr w B bp (relOf l)) (hB : B ≤ w.heap.size) :
    Calls Tryd.prog 25 #[.pointer (some ⟨bp, 0, none⟩), .int .i64 s0, .int .i64 tape, .string u] w fun e w' => e = .returned (.bool (restB l tape s0 (digs u))) ∧ ∃ m, w' = w.drewN m := by
  have hlu := word_len hu
  have hk3 := hl.k3
  have HDG := Lib.hid (fun k (hk : k < u.size) => digs_get hu hk)
  have HST := Lib.hid (fun k (hk : k < u.size) d (hd : (digs u)[k]'(by rw [digs_len]; exact hk) = d) => (show WithMath.restS l tape s0 ((digs u).take (k + 1)) = (l.nx.getD (WithMath.restS l tape s0 ((digs u).take k)) []).getD (aloneN l.k tape d) 0 from by
    rw [List.take_succ_eq_append_getElem (by rw [digs_len]; exact hk), hd]
    unfold WithMath.restS; rw [List.foldl_append]; rfl))
  have HLT := Lib.hid (fun k => restS_lt hl h2 ht (u := (digs u).take k) (fun d hd => digs_lt u d (List.mem_of_mem_take hd)) hs0)
  have HEND := Lib.hid (show WithMath.restS l tape s0 (digs u) = WithMath.restS l tape s0 ((digs u).take u.size) from by rw [List.take_of_length_le (by rw [digs_len]; exact Nat.le_refl _)])
  obtain ⟨f, hf⟩ : ∃ f : Nat → Nat, f = fun k => WithMath.restS l tape s0 ((digs u).take k) := ⟨_, rfl⟩
  have HF0 := Lib.hid (show f 0 = s0 from by rw [hf]; rfl)
  rw [show restB l tape s0 (digs u) = l.acc.getD (f u.size) false by unfold restB; rw [HEND.out, hf]]
  have HS2 := Lib.hid (fun k (hk : k < u.size) d (hd : (digs u)[k]'(by rw [digs_len]; exact hk) = d) => (show f (k + 1) = (l.nx.getD (f k) []).getD (aloneN l.k tape d) 0 from by rw [hf]; exact HST.out k hk d hd))
  have HL2 := Lib.hid (fun k => (show f k < l.acc.length from by rw [hf]; exact HLT.out k))
  have HAF := Lib.hid (fun d (hd : d < 2) => alone_fin (k := l.k) (tape := tape) (d := d) h2 hk3 ht hd)
  have HWS := Lib.hid (fun d (hd : d < 2) W => (show Calls Tryd.prog 24 #[.int .i64 ((wide (l.k - 1) : Nat) : Int), .int .i64 (l.k : Nat), .int .i64 tape, .int .i64 (d : Nat)] W fun e w' => e = .returned (.int .i64 ((aloneN l.k tape d : Nat) : Int)) ∧ ∃ m, w' = W.drewN m from withS l.k tape d (wide (l.k - 1)) hk3 (by have := wide_cases (k := l.k - 1) (by omega) (by omega); omega) (by omega) (by omega) W))
  have HWD := Lib.hid (fun W => (show Calls Tryd.prog 23 #[.int .i64 ((l.k - 1 : Nat) : Int)] W (fun e w' => e = .returned (.int .i64 ((wide (l.k - 1) : Nat) : Int)) ∧ W = w') from by
    rw [← wide_eq (k := l.k - 1) (by omega) (by omega)]
    exact wideAny _ (by omega) (by omega) W))
  clear HST HLT HEND hf
  obtain ⟨va, vn, c0, c1, c2, c3, ha0, hx0⟩ := h
  have ha : Bools w B va l.acc := ha0
  have hx : IntRows w B vn (l.nx.map ofN) := hx0
  have c0' : w.cell? ⟨bp, 0, none⟩ = some (.int .i64 (l.k : Nat)) := c0
  clear ha0 hx0 c0 c1
  obtain ⟨aa, ba, oa, ca, rfl, hma, haa, hca⟩ := ha
  obtain ⟨V, ⟨an, bn, on, cn, rfl, hmn, han, hcn⟩, hrows⟩ := hx
  have hln : (l.nx.map ofN).length = l.acc.length := by rw [List.length_map, hl.len]
  rw [hln] at hmn han hcn hrows c3
  have h0 : 0 < l.acc.length := Nat.lt_of_le_of_lt (Nat.zero_le _) hs0
  obtain ⟨rfl, hba⟩ := haa h0
  obtain ⟨rfl, hbn⟩ := han h0
  have c2' : w.cell? ⟨bp, 2, none⟩ = some (.slice (some ⟨ba, oa, none⟩) l.acc.length ca) := c2
  have hw0 : 0 < wide l.k := by have := wide_cases hl.k0 hk3; omega
  have HR := Lib.hid (fun (s : Nat) (hs : s < l.acc.length) => (show ∃ br or cr, V s = .slice (some ⟨br, or, none⟩) (wide l.k) cr ∧ ∀ c, c < wide l.k → w.cell? ⟨br, or + c, none⟩ = some (.int .i64 (((l.nx.getD s []).getD c 0 : Nat) : Int)) from by
    have h1 := hrows s hs
    have hrl : (l.nx.getD s []).length = wide l.k := hl.row s hs
    have hget : (l.nx.map ofN).getD s [] = ofN (l.nx.getD s []) := by
      have h1 : s < l.nx.length := by rw [hl.len]; exact hs
      simp [List.getD, h1]
    rw [hget] at h1
    obtain ⟨ar, br, or, cr, hvr, hmr, har, hcr⟩ := h1
    rw [ofN_length, hrl] at hvr hmr har hcr
    obtain ⟨rfl, hbr⟩ := har hw0
    refine ⟨br, or, cr, hvr, fun c hc => ?_⟩
    rw [hcr c hc]
    show some (Value.int .i64 ((ofN (l.nx.getD s [])).getD c 0)) = _
    rw [ofN_get _ (by rw [hrl]; exact hc)]))
  have HA := Lib.hid hca
  have HN := Lib.hid hcn
  obtain ⟨n, hnn⟩ : ∃ n, n = l.acc.length := ⟨_, rfl⟩
  rw [← hnn] at HA HN HR HL2 hma hmn hs0 h0 c2' c3
  obtain ⟨wk, hwk⟩ : ∃ x, x = wide l.k := ⟨_, rfl⟩
  rw [← hwk] at HR HAF
  obtain ⟨wp, hwp⟩ : ∃ x, x = wide (l.k - 1) := ⟨_, rfl⟩
  rw [← hwp] at HWS HWD
  obtain ⟨g, hg⟩ : ∃ g : Nat → Nat, g = fun d => aloneN l.k tape d := ⟨_, rfl⟩
  have HG := Lib.hid (fun d => (show aloneN l.k tape d = g d from by rw [hg]))
  have HS3 := Lib.hid (fun k (hk : k < u.size) d (hd : (digs u)[k]'(by rw [digs_len]; exact hk) = d) => (show f (k + 1) = (l.nx.getD (f k) []).getD (g d) 0 from by rw [← HG.out]; exact HS2.out k hk d hd))
  have HAF2 := Lib.hid (fun d (hd : d < 2) => (show g d < wk from by rw [← HG.out]; exact HAF.out d hd))
  have HWS2 := Lib.hid (fun d (hd : d < 2) W => (show Calls Tryd.prog 24 #[.int .i64 ((wp : Nat) : Int), .int .i64 (l.k : Nat), .int .i64 tape, .int .i64 (d : Nat)] W fun e w' => e = .returned (.int .i64 ((g d : Nat) : Int)) ∧ ∃ m, w' = W.drewN m from by rw [← HG.out]; exact HWS.out d hd W))
  obtain ⟨k, hkk⟩ : ∃ k : Nat, k = l.k := ⟨_, rfl⟩
  rw [← hkk] at HWS2 HWD c0' h2 hk3
  have hwr : IntKind.i64.wrap ((k : Int) - 1) = ((k - 1 : Nat) : Int) := by
    rw [show (k : Int) - 1 = ((k - 1 : Nat) : Int) by omega]
    exact (FixRule.wrap_small (k - 1) (by omega)).1
  clear hca hcn hrows hln haa han hba hbn hB hnn hwk hwp hg HWS HS2 HAF hkk c2 ht hw0 hl hu
  have HFE := Lib.hid (show (s0 : Int) = ((f 0 : Nat) : Int) from by rw [HF0.out])
  go_enter Tryd.func25, Tryd.ntmps25
  go_wp2_with (go_at_call 23; refine (HWD.out _).mono ?_; rintro e w' ⟨rfl, rfl⟩)
  go_loopw [1, 10] (fun s1 s10 wr => ∃ i m : Nat, i ≤ u.size ∧ s10 = .int .i64 i ∧ s1 = .int .i64 ((f i : Nat) : Int) ∧ wr = w.drewN m) (fun _ s10 _ => u.size - (intOf s10).toNat)
  case atStart => exact ⟨0, 0, Nat.zero_le _, rfl, by rw [HFE.out], rfl⟩
  case round =>
    obtain ⟨i, m, hi, rfl, rfl, rfl⟩ := hrel
    have hfl := HL2.out i
    by_cases hlt : i < u.size
    · obtain ⟨d, hd2, -, hdg, hch⟩ := HDG.out i hlt
      have HSN := Lib.hid (HS3.out i hlt d hdg)
      obtain ⟨br, or, cr, hvs, hcr⟩ := HR.out (f i) hfl
      have cN := HN.out (f i) hfl
      have hgd := HAF2.out d hd2
      rw [hvs] at cN
      have cX := hcr (g d) hgd
      rw [← HSN.out] at cX
      have HWC := Lib.hid (fun q => HWS2.out d hd2 (w.drewN q))
      have hsub : IntKind.u8.wrap ((u[i].toNat : Int) - 97) = (d : Int) := by
        rw [hch]
        have : d = 0 ∨ d = 1 := by omega
        rcases this with rfl | rfl <;> rfl
      have hcv : IntKind.i64.wrap (d : Int) = (d : Int) := (FixRule.wrap_small d (by omega)).1
      clear hdg hch hvs hcr HSN
      go_wp2_with fail
      go_quiet ((go_at_call 24; exact quiet_drewN HWC.out))
      go_wp2_with fail
      go_roundw
      case rel => exact ⟨i + 1, _, hlt, by go_num, rfl, rfl⟩
      case measure => simp [intOf]; omega
    · obtain rfl : i = u.size := by omega
      have cA := HA.out _ hfl
      go_wp2_with fail
      go_ret
      exact ⟨rfl, _, rfl⟩

theorem tapes_of {r : R} (h : okB r = true) : 1 ≤ r.tapes ∧ r.tapes ≤ 3 := by
  have e := (SpecTidyRel.okL h).1
  have e2 : ((ToL.toL r).k : Int) = r.tapes := congrArg R.tapes e.1
  have := e.2.k0
  have := e.2.k3
  omega
set_option maxHeartbeats 8000000 in
theorem fewerS (r : R) (x : Int) (bp : Nat) (w : World) (B : Nat) (h : RelPtr w B bp r) :
    Calls Tryd.prog 21 #[.pointer (some ⟨bp, 0, none⟩), .int .i64 x] w fun e w' => e = .returned (.int .i64 (dropC r x)) ∧ ∃ m, w' = w.drewN m := by
  have HV := Lib.hid (fun q => specOk r bp (w.drewN q) B h)
  have HE0 := Lib.hid (show okB r = false → dropC r x = 1 from fun h => by simp [dropC, h])
  have HE1 := Lib.hid (show okB r = true → dropC r x = if (0 ≤ x ∧ x < r.tapes) ∧ r.tapes ≠ 1 then 0 else 2 from fun h => by unfold dropC; rw [if_pos h])
  have HKK := Lib.hid (show okB r = true → 1 ≤ r.tapes ∧ r.tapes ≤ 3 from fun h => tapes_of h)
  obtain ⟨va, vn, c0, -, -, -, -, -⟩ := h
  obtain ⟨C, hC⟩ : ∃ y, y = dropC r x := ⟨_, rfl⟩
  obtain ⟨q, hq⟩ : ∃ y, y = okB r := ⟨_, rfl⟩
  rw [← hC, ← hq] at HE0 HE1
  rw [← hq] at HV HKK
  rw [← hC]
  obtain ⟨k, hk⟩ : ∃ k : Int, k = r.tapes := ⟨_, rfl⟩
  rw [← hk] at c0 HE1 HKK
  clear hC hq hk
  have HONE : ∀ D : Int, (q = false → D = 1) → (q = true → D = if 0 ≤ x ∧ x ≤ k - 1 then 0 else 2) → Calls Tryd.prog 42 #[.pointer (some ⟨bp, 0, none⟩), .int .i64 x] w fun e w' => e = .returned (.int .i64 D) ∧ ∃ m, w' = w.drewN m := by
    intro D hD0 hD1
    go_enter Tryd.func42, Tryd.ntmps42
    go_wp2_with fail
    refine (HV.out 0).mono ?_
    rintro e w' ⟨rfl, m, rfl⟩
    cases q with
    | false =>
      obtain rfl := hD0 rfl
      go_wp2_with fail
      go_ret
      exact ⟨rfl, _, rfl⟩
    | true =>
      obtain ⟨k1, k3⟩ := HKK.out rfl
      have hD2 := hD1 rfl
      have hwr : IntKind.i64.wrap (k - 1) = k - 1 := by rw [IntKind.wrap_i64]; omega
      by_cases hr : 0 ≤ x ∧ x ≤ k - 1
      · rw [if_pos hr] at hD2
        subst hD2
        have hin : inB x 0 (k - 1) = true := by simp [inB, hr]
        clear hD0 hD1 hr
        go_wp2_with (go_at_call 43; refine (inRange _ _ _ _).mono ?_; rintro e w' ⟨rfl, rfl⟩)
        go_ret
        exact ⟨rfl, _, rfl⟩
      · rw [if_neg hr] at hD2
        subst hD2
        have hin : inB x 0 (k - 1) = false := by simp [inB]; omega
        clear hD0 hD1 hr
        go_wp2_with (go_at_call 43; refine (inRange _ _ _ _).mono ?_; rintro e w' ⟨rfl, rfl⟩)
        go_ret
        exact ⟨rfl, _, rfl⟩
  cases q with
  | false =>
    obtain rfl := HE0.out rfl
    have H1 := Lib.hid (HONE 1 (fun _ => rfl) (fun h => by cases h))
    clear HONE HE0 HE1 HKK HV
    go_enter Tryd.func21, Tryd.ntmps21
    go_wp2_with fail
    refine H1.out.mono ?_
    rintro e w' ⟨rfl, m, rfl⟩
    go_wp2_with fail
    go_ret
    exact ⟨rfl, _, rfl⟩
  | true =>
    have HE2 := HE1.out rfl
    by_cases hr : 0 ≤ x ∧ x ≤ k - 1
    · have H1 := Lib.hid (HONE 0 (fun h => by cases h) (fun _ => by rw [if_pos hr]))
      clear HONE HE0 HE1 HKK HV
      by_cases h1 : k = 1
      · rw [if_neg (fun h => h.2 h1)] at HE2
        subst HE2
        have hk1 : (k == 1) = true := by simpa using h1
        clear hr h1
        go_enter Tryd.func21, Tryd.ntmps21
        go_wp2_with fail
        refine H1.out.mono ?_
        rintro e w' ⟨rfl, m, rfl⟩
        go_wp2_with fail
        go_ret
        exact ⟨rfl, _, rfl⟩
      · rw [if_pos ⟨⟨hr.1, by omega⟩, h1⟩] at HE2
        subst HE2
        have hk1 : (k == 1) = false := by simpa using h1
        clear hr h1
        go_enter Tryd.func21, Tryd.ntmps21
        go_wp2_with fail
        refine H1.out.mono ?_
        rintro e w' ⟨rfl, m, rfl⟩
        go_wp2_with fail
        go_ret
        exact ⟨rfl, _, rfl⟩
    · have H1 := Lib.hid (HONE 2 (fun h => by cases h) (fun _ => by rw [if_neg hr]))
      rw [if_neg (fun h => hr ⟨h.1.1, by omega⟩)] at HE2
      subst HE2
      clear HONE HE0 HE1 HKK HV hr
      go_enter Tryd.func21, Tryd.ntmps21
      go_wp2_with fail
      refine H1.out.mono ?_
      rintro e w' ⟨rfl, m, rfl⟩
      go_wp2_with fail
      go_ret
      exact ⟨rfl, _, rfl⟩
end Go.Proofs.YtcpcbmappcndcaaDoor.RestS
/- The box of a relation that a function was handed, kept while the function works.
   Conditions: stated at each theorem. -/
namespace Go.Proofs.YtcpcbmappcndcaaDoor.Box1
set_option linter.unusedVariables false
open Go.RowKit Mem Copy Rel Heap Bld

def E1 (w : World) (c : Array Value) (W : World) : Prop := Below (w.heap.size + 1) (w.alloc (.cells c 27)) W
theorem E1.size {w W : World} {c : Array Value} (h : E1 w c W) : w.heap.size + 1 ≤ W.heap.size := by have := Below.size h; rwa [size_alloc'] at this
theorem E1.base {w W : World} {c : Array Value} (h : E1 w c W) : Below w.heap.size w W := ((Below.refl _ _).alloc (Nat.le_refl _) _).trans (Below.mono h (Nat.le_succ _))
theorem E1.box {w W : World} {c : Array Value} (h : E1 w c W) : W.heap[w.heap.size]? = some (.cells c 27 (0, 0)) := (Below.block h _ (Nat.lt_succ_self _)).trans (heap_alloc_new _ _)
theorem E1.go {w W W' : World} {c : Array Value} (h : E1 w c W) (hb : Below W.heap.size W W') : E1 w c W' := Below.trans h (hb.mono (E1.size h))
theorem E1.drew {w W : World} {c : Array Value} (h : E1 w c W) : E1 w c W.drew := below_drewN h 1
theorem E1.drewN {w W : World} {c : Array Value} (h : E1 w c W) (m : Nat) : E1 w c (W.drewN m) := below_drewN h m
theorem E1.alloc {w W : World} {c : Array Value} (h : E1 w c W) (o : Obj) : E1 w c (W.alloc o) := h.go ((Below.refl _ _).alloc (Nat.le_refl _) _)
theorem E1.new (w : World) (c : Array Value) : E1 w c (w.alloc (.cells c 27)) := Below.refl _ _
theorem E1.setCell {w W : World} {c : Array Value} (h : E1 w c W) {p : Addr} (hp : w.heap.size + 1 ≤ p.block) (u : Value) : E1 w c (W.setCell p u) := Below.setCell h hp u
end Go.Proofs.YtcpcbmappcndcaaDoor.Box1
/- Whether an automaton of one tape takes a word from a state on: what the program's takesFrom answers.
   Conditions: the relation is read as XRel's text says; the word is one. -/
namespace Go.Proofs.YtcpcbmappcndcaaDoor.TakesI
set_option linter.unusedVariables false
set_option linter.unusedSimpArgs false
set_option maxRecDepth 100000
open Go.RowKit Mem Copy Rel Heap Bld SpecFiner SpecRight TidyAuto TidyRight WordMath Digs Box1

set_option maxHeartbeats 8000000 in
theorem takesI (l : L) (hl : l.Ok) (hk1 : l.k = 1) (s0 : Nat) (hs0 : s0 < l.acc.length) (u : ByteArray) (hu : wordB u = true) (v : Value) (w : World) (B : Nat) (h : RelAt w B v (relOf l)) (hB : B ≤ w.heap.size) :
    Calls Tryd.prog 59 #[v, .int .i64 s0, .string u] w fun e w' => e = .returned (.bool (l.acc.getD (runS l s0 (digs u)) false)) ∧ Below w.heap.size w w' := by
  have hlu := word_len hu
  have HDG := Lib.hid (fun k (hk : k < u.size) => digs_get hu hk)
  have HST := Lib.hid (fun k (hk : k < u.size) d (hd : (digs u)[k]'(by rw [digs_len]; exact hk) = d) => (show runS l s0 ((digs u).take (k + 1)) = (l.nx.getD (runS l s0 ((digs u).take k)) []).getD d 0 from by
    rw [List.take_succ_eq_append_getElem (by rw [digs_len]; exact hk), hd, runS_snoc]))
  have HLT := Lib.hid (fun k => runS_lt hl hk1 (u := (digs u).take k) (fun d hd => digs_lt u d (List.mem_of_mem_take hd)) hs0)
  have HEND := Lib.hid (show runS l s0 (digs u) = runS l s0 ((digs u).take u.size) from by rw [List.take_of_length_le (by rw [digs_len]; exact Nat.le_refl _)])
  obtain ⟨f, hf⟩ : ∃ f : Nat → Nat, f = fun k => runS l s0 ((digs u).take k) := ⟨_, rfl⟩
  have HF0 := Lib.hid (show f 0 = s0 from by rw [hf]; rfl)
  rw [show runS l s0 (digs u) = f u.size by rw [hf]; exact HEND.out]
  have HS2 := Lib.hid (fun k (hk : k < u.size) d (hd : (digs u)[k]'(by rw [digs_len]; exact hk) = d) => (show f (k + 1) = (l.nx.getD (f k) []).getD d 0 from by rw [hf]; exact HST.out k hk d hd))
  have HL2 := Lib.hid (fun k => (show f k < l.acc.length from by rw [hf]; exact HLT.out k))
  clear HST HLT HEND hf
  obtain ⟨va, vn, rfl, ha0, hx0⟩ := h
  have ha : Bools w B va l.acc := ha0
  have hx : IntRows w B vn (l.nx.map ofN) := hx0
  clear ha0 hx0
  obtain ⟨aa, ba, oa, ca, rfl, hma, haa, hca⟩ := ha
  obtain ⟨V, ⟨an, bn, on, cn, rfl, hmn, han, hcn⟩, hrows⟩ := hx
  have hln : (l.nx.map ofN).length = l.acc.length := by rw [List.length_map, hl.len]
  rw [hln] at hmn han hcn hrows
  have h0 : 0 < l.acc.length := Nat.lt_of_le_of_lt (Nat.zero_le _) hs0
  obtain ⟨rfl, hba⟩ := haa h0
  obtain ⟨rfl, hbn⟩ := han h0
  show Calls Tryd.prog _ #[.agg #[.int .i64 (l.k : Nat), .int .i64 (l.start : Nat), .slice (some ⟨ba, oa, none⟩) l.acc.length ca, .slice (some ⟨bn, on, none⟩) (l.nx.map ofN).length cn], .int .i64 s0, .string u] w _
  rw [hln]
  have HA := Lib.hid (fun W (hb : Below w.heap.size w W) (i : Nat) (hi : i < l.acc.length) => (show W.cell? ⟨ba, oa + i, none⟩ = some (.bool (l.acc.getD i false)) from (hb.cell (p := ⟨ba, oa + i, none⟩) (by show ba < _; omega)).trans (hca i hi)))
  have HN := Lib.hid (fun W (hb : Below w.heap.size w W) (i : Nat) (hi : i < l.acc.length) => (show W.cell? ⟨bn, on + i, none⟩ = some (V i) from (hb.cell (p := ⟨bn, on + i, none⟩) (by show bn < _; omega)).trans (hcn i hi)))
  have HR := Lib.hid (fun (s : Nat) (hs : s < l.acc.length) => (show ∃ br or cr, V s = .slice (some ⟨br, or, none⟩) 2 cr ∧ br < w.heap.size ∧ ∀ W, Below w.heap.size w W → ∀ c, c < 2 → W.cell? ⟨br, or + c, none⟩ = some (.int .i64 (((l.nx.getD s []).getD c 0 : Nat) : Int)) from by
    have h1 := hrows s hs
    have hrl : (l.nx.getD s []).length = 2 := by rw [hl.row s hs, hk1]; rfl
    have hget : (l.nx.map ofN).getD s [] = ofN (l.nx.getD s []) := by
      have h1 : s < l.nx.length := by rw [hl.len]; exact hs
      simp [List.getD, h1]
    rw [hget] at h1
    obtain ⟨ar, br, or, cr, hvr, hmr, har, hcr⟩ := h1
    rw [ofN_length, hrl] at hvr hmr har hcr
    obtain ⟨rfl, hbr⟩ := har (by omega)
    refine ⟨br, or, cr, hvr, by omega, fun W hb c hc => ?_⟩
    rw [hb.cell (p := ⟨br, or + c, none⟩) (by show br < _; omega), hcr c hc]
    show some (Value.int .i64 ((ofN (l.nx.getD s [])).getD c 0)) = _
    rw [ofN_get _ (by rw [hrl]; exact hc)]))
  obtain ⟨n, hnn⟩ : ∃ n, n = l.acc.length := ⟨_, rfl⟩
  rw [← hnn] at HA HN HR HL2 hma hmn hs0 h0
  rw [← hnn]
  have q1 : ba < w.heap.size := by omega
  have q2 : bn < w.heap.size := by omega
  obtain ⟨k, hkk⟩ : ∃ k : Int, k = ((l.k : Nat) : Int) := ⟨_, rfl⟩
  obtain ⟨st, hst⟩ : ∃ st : Int, st = ((l.start : Nat) : Int) := ⟨_, rfl⟩
  rw [← hkk, ← hst]
  clear hkk hst hca hcn hrows hln haa han hba hbn hB hnn hk1
  have HX := Lib.hid (fun W (hk : E1 w #[.int .i64 k, .int .i64 st, .slice (some ⟨ba, oa, none⟩) n ca, .slice (some ⟨bn, on, none⟩) n cn] W) => (show W.cell? ⟨w.heap.size, 2, none⟩ = some (.slice (some ⟨ba, oa, none⟩) n ca) ∧ W.cell? ⟨w.heap.size, 3, none⟩ = some (.slice (some ⟨bn, on, none⟩) n cn) from by
    have hb := E1.box hk
    exact ⟨by rw [cells_get hb]; rfl, by rw [cells_get hb]; rfl⟩))
  have HK0 := Lib.hid (E1.new w #[.int .i64 k, .int .i64 st, .slice (some ⟨ba, oa, none⟩) n ca, .slice (some ⟨bn, on, none⟩) n cn])
  have HFE := Lib.hid (show (s0 : Int) = ((f 0 : Nat) : Int) from by rw [HF0.out])
  go_enter Tryd.func59, Tryd.ntmps59
  go_wp2_with fail
  go_loopw [1, 7, 10] (fun s1 _ s10 wr => ∃ i : Nat, i ≤ u.size ∧ s10 = .int .i64 i ∧ s1 = .int .i64 ((f i : Nat) : Int) ∧ E1 w #[.int .i64 k, .int .i64 st, .slice (some ⟨ba, oa, none⟩) n ca, .slice (some ⟨bn, on, none⟩) n cn] wr) (fun _ _ s10 _ => u.size - (intOf s10).toNat)
  case atStart => exact ⟨0, Nat.zero_le _, rfl, by rw [HFE.out], HK0.out⟩
  case round =>
    obtain ⟨i, hi, rfl, rfl, hki⟩ := hrel
    have HKI := Lib.hid hki
    clear hki HK0
    have hfl := HL2.out i
    obtain ⟨x2, x3⟩ := HX.out _ HKI.out
    have hl1 := E1.size HKI.out
    by_cases hlt : i < u.size
    · obtain ⟨d, hd2, -, hdg, hch⟩ := HDG.out i hlt
      have HSN := Lib.hid (HS2.out i hlt d hdg)
      obtain ⟨br, or, cr, hvs, hbr, hcr⟩ := HR.out (f i) hfl
      have cN := HN.out _ (E1.base HKI.out) (f i) hfl
      rw [hvs] at cN
      have cX := hcr _ (E1.base HKI.out) d hd2
      rw [← HSN.out] at cX
      have hsub : IntKind.u8.wrap ((u[i].toNat : Int) - 97) = (d : Int) := by
        rw [hch]
        have : d = 0 ∨ d = 1 := by omega
        rcases this with rfl | rfl <;> rfl
      clear hdg hch hvs hcr HSN
      go_wp2_with fail
      go_quiet (fail)
      have HKQ := Lib.hid (E1.drewN HKI.out nq)
      go_wp2_with fail
      go_roundw
      case rel => exact ⟨i + 1, hlt, by go_num, rfl, HKQ.out⟩
      case measure => simp [intOf]; omega
    · obtain rfl : i = u.size := by omega
      have cA := HA.out _ (E1.base HKI.out) _ hfl
      go_wp2_with fail
      go_ret
      exact ⟨rfl, E1.base HKI.out⟩
end Go.Proofs.YtcpcbmappcndcaaDoor.TakesI
