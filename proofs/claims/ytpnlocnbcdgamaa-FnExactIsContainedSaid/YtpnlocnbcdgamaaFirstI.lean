
/- What the program's function that finds the first list of columns hands back.
   Conditions: stated at each theorem. -/
import Derived.Test.YtpnlocnbcdgamaaSteps
import Derived.Test.YtpnlocnbcdgamaaReverse
import Derived.Test.YtpnlocnbcdgamaaImplRight
namespace Go.Proofs.Ytpnlocnbcdgamaa.FirstI
set_option linter.unusedVariables false
set_option linter.unusedSimpArgs false
set_option linter.ambiguousOpen false
set_option maxRecDepth 100000
open Go.RowKit Mem Copy Rel Valid Heap Columns Bld TidyMath TidyClass TidyAuto TidyRight SpecFiner SpecRight First FirstTidy Go.Proofs.Ytpnlocnbcdgamaa.Steps

def q0 : Q := ⟨0, 0, 0, 0⟩
def pth (S : List ((Nat × Nat) × List Nat)) (j : Nat) : List Nat := (S.getD j ((0, 0), [])).2
/-- Steps in memory, and what is met, each with the list that leads to it. -/
structure Par (k : Nat) (P : List Q) (S : List ((Nat × Nat) × List Nat)) : Prop where
  keys : P.map kq = S.map Prod.fst
  zero : pth S 0 = []
  back : ∀ j, 0 < j → j < P.length → (P.getD j q0).f < j ∧ (P.getD j q0).c < k ∧ pth S j = pth S (P.getD j q0).f ++ [(P.getD j q0).c]
theorem Par.len {k : Nat} {P : List Q} {S : List ((Nat × Nat) × List Nat)} (h : Par k P S) : P.length = S.length := by
  have := congrArg List.length h.keys; rwa [List.length_map, List.length_map] at this
theorem Par.key {k : Nat} {P : List Q} {S : List ((Nat × Nat) × List Nat)} (h : Par k P S) {j : Nat} (hj : j < P.length) (hj' : j < S.length) : kq P[j] = S[j].1 := by
  have := List.getElem_of_eq h.keys (i := j) (by rw [List.length_map]; exact hj)
  rwa [List.getElem_map, List.getElem_map] at this
theorem Par.idx {k : Nat} {P : List Q} {S : List ((Nat × Nat) × List Nat)} (h : Par k P S) {q : Q} {x : (Nat × Nat) × List Nat} (hq : kq q = x.1) : idx kq P q = idx Prod.fst S x := by
  have e1 : TidyMath.idx kq P q = (P.map kq).findIdx fun y => decide (y = kq q) := by rw [List.findIdx_map]; rfl
  have e2 : TidyMath.idx Prod.fst S x = (S.map Prod.fst).findIdx fun y => decide (y = x.1) := by rw [List.findIdx_map]; rfl
  rw [e1, e2, h.keys, hq]
theorem Par.one (k : Nat) (l r : Nat) : Par k [⟨l, r, 0, 0⟩] [((l, r), [])] :=
  ⟨rfl, rfl, fun j h0 hj => by simp at hj; omega⟩
theorem pth_append {S : List ((Nat × Nat) × List Nat)} {x : (Nat × Nat) × List Nat} {j : Nat} (hj : j < S.length) : pth (S ++ [x]) j = pth S j := by
  unfold pth
  rw [List.getD_eq_getElem?_getD, List.getD_eq_getElem?_getD, List.getElem?_append_left hj]
theorem pth_last {S : List ((Nat × Nat) × List Nat)} {x : (Nat × Nat) × List Nat} : pth (S ++ [x]) S.length = x.2 := by
  unfold pth
  rw [List.getD_eq_getElem?_getD, List.getElem?_append_right (Nat.le_refl _)]; simp
theorem Par.meet {k : Nat} {P : List Q} {S : List ((Nat × Nat) × List Nat)} (h : Par k P S) (hp : 0 < P.length) {i c a b : Nat} (hi : i < P.length) (hc : c < k) :
    Par k (meet kq P ⟨a, b, i, c⟩) (meet Prod.fst S ((a, b), pth S i ++ [c])) := by
  have e := h.idx (q := ⟨a, b, i, c⟩) (x := ((a, b), pth S i ++ [c])) rfl
  have hl := h.len
  unfold TidyMath.meet
  by_cases hlt : TidyMath.idx kq P ⟨a, b, i, c⟩ < P.length
  · rw [if_pos hlt, if_pos (by rw [← e, ← hl]; exact hlt)]; exact h
  · rw [if_neg hlt, if_neg (by rw [← e, ← hl]; exact hlt)]
    refine ⟨by rw [List.map_append, List.map_append, h.keys]; rfl, by rw [pth_append (by omega)]; exact h.zero, fun j h0 hj => ?_⟩
    by_cases hjl : j < P.length
    · have eg : (P ++ [(⟨a, b, i, c⟩ : Q)]).getD j q0 = P.getD j q0 := by rw [List.getD_eq_getElem?_getD, List.getD_eq_getElem?_getD, List.getElem?_append_left hjl]
      obtain ⟨h1, h2, h3⟩ := h.back j h0 hjl
      rw [eg]
      refine ⟨h1, h2, ?_⟩
      rw [pth_append (by omega), pth_append (by omega)]; exact h3
    · rw [List.length_append] at hj
      simp at hj
      obtain rfl : j = P.length := by omega
      have eg : (P ++ [(⟨a, b, i, c⟩ : Q)]).getD P.length q0 = (⟨a, b, i, c⟩ : Q) := by rw [List.getD_eq_getElem?_getD, List.getElem?_append_right (Nat.le_refl _)]; simp
      rw [eg]
      refine ⟨hi, hc, ?_⟩
      rw [pth_append (show i < S.length by omega), hl, pth_last]

theorem iv_tv (R : List Nat) : iv R = tv R.length fun t => ((R.getD t 0 : Nat) : Int) := by
  apply List.ext_getElem
  · simp [iv, tv]
  · intro i h1 h2
    have hi : i < R.length := by simpa [iv] using h1
    simp [iv, tv, List.getD, hi]
theorem tv_rev (R : List Nat) : (tv R.length fun t => ((R.getD (R.length - 1 - t) 0 : Nat) : Int)) = iv R.reverse := by
  rw [iv_tv, List.length_reverse]
  refine tv_congr fun i hi => ?_
  rw [List.getD_eq_getElem?_getD, List.getD_eq_getElem?_getD, List.getElem?_reverse hi]

set_option maxHeartbeats 4000000 in
theorem back (w : World) (B k : Nat) (v : Value) (P : List Q) (S : List ((Nat × Nat) × List Nat)) (hp : Par k P S) (h : Stp w B v P) (i : Nat) (hi : i < P.length) (hlen : P.length ≤ 10000000) :
    Calls Try.prog 65 #[v, .int .i64 i] w fun e w' => ∃ vc, e = .returned vc ∧ Lst w' w.heap.size 2 vc (iv (pth S i)) ∧ Below w.heap.size w w' := by
  obtain ⟨g, cap, cur, rfl, -, hcur, -⟩ := h.block (by omega)
  have HC := Lib.hid (fun W (hb : Below w.heap.size w W) (j : Nat) (hj : j < P.length) => (h.below hb).cells (i := j) hj)
  have HP := Lib.hid hp
  have HG := Lib.hid (lt_of_block hcur)
  obtain ⟨n, hn⟩ : ∃ n, n = P.length := ⟨_, rfl⟩
  have HN := Lib.hid hn
  rw [← hn] at hi hlen ⊢
  clear hcur h hp hn
  go_enter Try.func65, Try.ntmps65
  go_wp2_with fail
  go_loopw [1, 5] (fun a c wr => ∃ (j : Nat) (R : List Nat), j < n ∧ R.length + j ≤ i ∧ a = .int .i64 j ∧ Lst wr w.heap.size 2 c (iv R) ∧ pth S i = pth S j ++ R.reverse ∧ Below w.heap.size w wr) (fun a _ _ => (intOf a).toNat)
  case atStart => exact ⟨i, [], hi, by simp, rfl, Lst.nil _ _ _, by simp, Below.refl _ _⟩
  case round =>
    obtain ⟨j, R, hj, hR, rfl, hl, hpt, hb⟩ := hrel
    have HL := Lib.hid hl
    have HPT := Lib.hid hpt
    have HB := Lib.hid hb
    by_cases h0 : j = 0
    · subst h0
      have HPE := Lib.hid (show iv (pth S i) = iv R.reverse by rw [hpt, HP.out.zero, List.nil_append])
      have HRV := Lib.hid (Reverse.reverse wr w.heap.size _ R.length (fun t => ((R.getD t 0 : Nat) : Int)) (by rw [← iv_tv]; exact hl) hb.size (by omega))
      obtain ⟨a5, n5, c5, rfl, -⟩ := hl.shape'
      clear hl hpt hb
      go_wp2_with fail
      refine HRV.out.mono ?_
      rintro e w3 ⟨rfl, hl3, hb3⟩
      have HL3 := Lib.hid (show Lst w3 w.heap.size 2 (.slice a5 n5 c5) (iv (pth S i)) by rw [HPE.out, ← tv_rev]; exact hl3)
      have HB3 := Lib.hid hb3
      clear hl3 hb3
      go_wp2_with fail
      go_ret
      exact ⟨_, rfl, HL3.out, HB.out.trans HB3.out⟩
    · obtain ⟨hf, -, hpj⟩ := HP.out.back j (by omega) (by rw [← HN.out]; exact hj)
      have hc := HC.out wr hb j (by rw [← HN.out]; exact hj)
      obtain ⟨q, hq⟩ : ∃ q, q = P.getD j q0 := ⟨_, rfl⟩
      have hqe : P[j]'(by rw [← HN.out]; exact hj) = q := by rw [hq, List.getD_eq_getElem?_getD, List.getElem?_eq_getElem (by rw [← HN.out]; exact hj), Option.getD_some]
      rw [← hq] at hf hpj
      rw [hqe] at hc
      obtain ⟨-, -, c2, c3⟩ := hc
      have HPJ := Lib.hid hpj
      have hgl : g < wr.heap.size := by have := hb.size; have := HG.out; omega
      have hj0 : ((j : Int) != 0) = true := by simp; omega
      have HLL := Lib.hid (show (iv R).length ≤ 100000000 by unfold iv; rw [List.length_map]; omega)
      have HSB := Lib.hid hb.size
      obtain ⟨ql, qr, qf, qc⟩ := q
      have HQE := Lib.hid (show (P[j]'(by rw [← HN.out]; exact hj)).f = qf by rw [hqe])
      simp only at c2 c3 hf
      obtain ⟨a5, n5, c5, rfl, -⟩ := hl.shape'
      clear hl hpt hb hq hqe hpj
      go_wp2_with (at_builtin; refine wpList_push rfl _ _ 50 rfl 2 (.int .i64 0) 8 Try.underlying50 info2 (by decide) (by decide) w.heap.size (.slice a5 n5 c5) (iv R) (.int .i64 (qc : Nat)) HL.out HSB.out rfl HLL.out rfl _ rfl rfl ?_; intro v6 w6 hp6; have HL6 := Lib.hid hp6.lst; have HB6 := Lib.hid (HB.out.grown hp6.grow HSB.out (fun q hq => HL.out.ge hq)); have hc6 := (HC.out w6 HB6.out j (by rw [← HN.out]; exact hj)); clear hp6)
      go_roundw
      case rel =>
        refine ⟨qf, R ++ [qc], by omega, by rw [List.length_append]; simp; omega, by rw [HQE.out], by have := HL6.out; rwa [show iv R ++ [Value.int .i64 (qc : Nat)] = iv (R ++ [qc]) by simp [iv]] at this, by rw [HPT.out, HPJ.out]; simp, HB6.out⟩
      case measure => rw [HQE.out]; simp [intOf]; omega

/-! What the right automaton reads as. -/
theorem nxP_get {l : L} (hl : l.Ok) {s : Nat} (hs : s < (auP l).n) : ∃ h : s < (nxP l).length, (nxP l)[s] = (auP l).nx s ∧ ((auP l).nx s).length = wide l.k := by
  have hs' : s < (F l).length + 1 := hs
  have hlen : s < (nxP l).length := by unfold nxP; rw [List.length_cons, List.length_map]; exact hs'
  refine ⟨hlen, ?_, ?_⟩
  · show _ = (nxP l).getD s []
    rw [List.getD_eq_getElem?_getD, List.getElem?_eq_getElem hlen, Option.getD_some]
  · cases s with
    | zero => show (List.replicate (wide l.k) 0).length = _; rw [List.length_replicate]
    | succ s => rw [auP_nx (by omega), ImplRight.rowP_length]
theorem accP_len (l : L) : (accP l).length = (auP l).n := by unfold accP; rw [List.length_cons, List.length_map]; rfl
theorem nxP_len (l : L) : (nxP l).length = (auP l).n := by unfold nxP; rw [List.length_cons, List.length_map]; rfl
structure RightAt (W0 : World) (M : Nat) (l : L) (b4 b6 : Nat) : Prop where
  acc : ∀ W, Below M W0 W → ∀ s, s < (auP l).n → W.cell? ⟨b4, s, none⟩ = some (.bool ((auP l).acc s))
  row : ∀ s, s < (auP l).n → ∃ b cp, b < M ∧ ∀ W, Below M W0 W → W.cell? ⟨b6, s, none⟩ = some (.slice (some ⟨b, 0, none⟩) (wide l.k) cp) ∧ ∀ c, c < wide l.k → W.cell? ⟨b, c, none⟩ = some (.int .i64 ((stA (auP l) s c : Nat) : Int))
theorem right_read {W0 : World} {B M : Nat} {l : L} (hl : l.Ok) {va vn : Value} (hb : Built W0 B va vn (accP l) ((nxP l).map ofN)) (hM : W0.heap.size ≤ M) :
    ∃ b4 c4 b6 c6, va = .slice (some ⟨b4, 0, none⟩) (auP l).n c4 ∧ vn = .slice (some ⟨b6, 0, none⟩) (auP l).n c6 ∧ b4 < W0.heap.size ∧ b6 < W0.heap.size ∧ RightAt W0 M l b4 b6 := by
  have hpos : 0 < (auP l).n := Nat.succ_pos _
  obtain ⟨b4, c4, e4, h4, hc4, -⟩ := hb.acc.view (by rw [List.length_map, accP_len]; exact hpos)
  rw [List.length_map, accP_len] at e4
  obtain ⟨items, ho, hn, hrows⟩ := hb.rows
  have hil : items.length = (auP l).n := by
    have := congrArg List.length hrows
    rw [List.length_map, List.length_map, List.length_map, nxP_len] at this; exact this
  obtain ⟨b6, c6, e6, h6, hc6, -⟩ := hn.view (by rw [List.length_map, hil]; exact hpos)
  rw [List.length_map, hil] at e6
  refine ⟨b4, c4, b6, c6, e4, e6, h4, h6, fun W hW s hs => ?_, fun s hs => ?_⟩
  · have hs' : s < (accP l).length := by rw [accP_len]; exact hs
    rw [hW.cell (p := ⟨b4, s, none⟩) (by show b4 < M; omega), hc4 s (by rw [List.length_map]; exact hs'), List.getElem_map]
    show _ = some (Value.bool ((accP l).getD s false))
    rw [List.getD_eq_getElem?_getD, List.getElem?_eq_getElem hs', Option.getD_some]
  · obtain ⟨hn1, hn2, hn3⟩ := nxP_get hl hs
    have hsi : s < items.length := by rw [hil]; exact hs
    have hrow : (items[s]).2 = (ofN ((auP l).nx s)).map (Value.int .i64) := by
      have := List.getElem_of_eq hrows (i := s) (by rw [List.length_map]; exact hsi)
      rw [List.getElem_map, List.getElem_map, List.getElem_map, hn2] at this
      exact this
    have hlst := ho.lst _ (List.getElem_mem hsi)
    have hw : 0 < wide l.k := by have := wide_cases hl.k0 hl.k3; omega
    have hlen2 : (items[s]).2.length = wide l.k := by rw [hrow, List.length_map, ofN_length, hn3]
    obtain ⟨b, cp, e, hbl, hcell, -⟩ := hlst.view (by rw [hlen2]; exact hw)
    rw [hlen2] at e
    refine ⟨b, cp, by omega, fun W hW => ⟨?_, fun c hc => ?_⟩⟩
    · rw [hW.cell (p := ⟨b6, s, none⟩) (by show b6 < M; omega), hc6 s (by rw [List.length_map]; exact hsi), List.getElem_map, e]
    · have hc' : c < ((auP l).nx s).length := by rw [hn3]; exact hc
      rw [hW.cell (p := ⟨b, c, none⟩) (by show b < M; omega), hcell c (by rw [hlen2]; exact hc), List.getElem_of_eq hrow, List.getElem_map, stA_get hc']
      simp [ofN]
theorem stA_ltP {l : L} (hl : l.Ok) {s c : Nat} (hs : s < (auP l).n) (hc : c < wide l.k) : stA (auP l) s c < (auP l).n := by
  have hs' : s < (F l).length + 1 := hs
  have t := twin hl
  have h1 : τ l s < (auM l).n := t.fl s hs
  have hn := PairMath.auM_row hl h1
  have e : (auP l).nx s = ((auM l).nx (τ l s)).map (σ l) := t.nx s hs
  rw [stA_get (by rw [e, List.length_map, hn]; exact hc), List.getElem_of_eq e, List.getElem_map]
  exact t.gl _ ((fits hl).2 _ h1 _ (List.getElem_mem _))
theorem seen_lt {l m : L} (hl : l.Ok) (hm : m.Ok) (hk : l.k = m.k) (i : Nat) : ∀ x ∈ First.seen (stPP l m) (wide l.k) (1, 1) i, x.1.1 < (auP l).n ∧ x.1.2 < (auP m).n := by
  have h1 : 1 < (auP l).n := Nat.succ_lt_succ (F_pos l)
  have h2 : 1 < (auP m).n := Nat.succ_lt_succ (F_pos m)
  refine bfs_all Prod.fst (nxt (stPP l m) (wide l.k)) ((1, 1), []) (fun x => x.1.1 < (auP l).n ∧ x.1.2 < (auP m).n) ⟨h1, h2⟩ (fun x hx y hy => ?_) i
  unfold nxt at hy
  obtain ⟨c, hc, e⟩ := List.mem_map.1 hy
  rw [List.mem_range] at hc
  have e' := Option.some.inj e
  subst e'
  exact ⟨stA_ltP hl hx.1 hc, stA_ltP hm hx.2 (hk ▸ hc)⟩
theorem seen_len {l m : L} (hl : l.Ok) (hm : m.Ok) (hk : l.k = m.k) (i : Nat) : (First.seen (stPP l m) (wide l.k) (1, 1) i).length ≤ (auP l).n * (auP m).n := by
  refine dist_few Prod.fst (bfs_dist _ _ _ i) (fun x => x.1.1 * (auP m).n + x.1.2) _ (fun x hx y hy e => ?_) (fun x hx => ?_)
  · have hx' := seen_lt hl hm hk i x hx
    have hy' := seen_lt hl hm hk i y hy
    have e : x.1.1 * (auP m).n + x.1.2 = y.1.1 * (auP m).n + y.1.2 := e
    have e1 := congrArg (· / (auP m).n) e
    have e2 := congrArg (· % (auP m).n) e
    simp only [PairMath.pair_div hx'.2, PairMath.pair_div hy'.2, PairMath.pair_mod hx'.2, PairMath.pair_mod hy'.2] at e1 e2
    exact Prod.ext e1 e2
  · have hx' := seen_lt hl hm hk i x hx
    exact PairMath.pair_lt hx'.1 hx'.2
end Go.Proofs.Ytpnlocnbcdgamaa.FirstI
