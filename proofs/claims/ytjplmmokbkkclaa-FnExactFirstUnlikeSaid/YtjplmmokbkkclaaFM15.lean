
/- What the program's function that finds the first list of columns hands back.
   Conditions: stated at each theorem. -/
import Derived.Test.YtjplmmokbkkclaaFM12
import Derived.Test.YtjplmmokbkkclaaFM14
import Derived.Test.YtjplmmokbkkclaaFM5
namespace Go.Proofs.Ytjplmmokbkkclaa.FirstI
set_option linter.unusedVariables false
set_option linter.unusedSimpArgs false
set_option linter.ambiguousOpen false
set_option maxRecDepth 100000
open Go.RowKit Mem Copy Rel Valid Heap Columns Bld TidyMath TidyClass TidyAuto TidyRight SpecFiner SpecRight First FirstTidy Go.Proofs.Ytjplmmokbkkclaa.Steps

def q0 : Q := ⟨0, 0, 0, 0⟩
def pth (S : List ((Nat × Nat) × List Nat)) (j : Nat) : List Nat := (S.getD j ((0, 0), [])).2
/-- Steps in memory, and what is met, each with the list that leads to it. -/
structure Par (k : Nat) (P : List Q) (S : List ((Nat × Nat) × List Nat)) : Prop where
  keys : P.map kq = S.map Prod.fst
  zero : pth S 0 = []
  back : ∀ j, 0 < j → j < P.length → (P.getD j q0).f < j ∧ (P.getD j q0).c < k ∧ pth S j = pth S (P.getD j q0).f ++ [(P.getD j q0).c]
theorem Par.len {k : Nat} {P : List Q} {S : List ((Nat × Nat) × List Nat)} (h : Par k P S) : P.length = S.length := by
  have := congrArg List.length h.keys; rwa [List.length_map, List.length_map] at this
theorem Par.key {k : Nat} {P : List Q} {S : List ((Nat × Nat) × List Nat)} (h : Par k P S) {j : Nat} (hj : j < P.length) (hj' : j < S.length) : kq P[j] = S[j].1 := by
  have := List.getElem_of_eq h.keys (i := j) (by rw [List.length_map]; exact hj)
  rwa [List.getElem_map, List.getElem_map] at this
theorem Par.idx {k : Nat} {P : List Q} {S : List ((Nat × Nat) × List Nat)} (h : Par k P S) {q : Q} {x : (Nat × Nat) × List Nat} (hq : kq q = x.1) : idx kq P q = idx Prod.fst S x := by
  have e1 : TidyMath.idx kq P q = (P.map kq).findIdx fun y => decide (y = kq q) := by rw [List.findIdx_map]; rfl
  have e2 : TidyMath.idx Prod.fst S x = (S.map Prod.fst).findIdx fun y => decide (y = x.1) := by rw [List.findIdx_map]; rfl
  rw [e1, e2, h.keys, hq]
theorem Par.one (k : Nat) (l r : Nat) : Par k [⟨l, r, 0, 0⟩] [((l, r), [])] :=
  ⟨rfl, rfl, fun j h0 hj => by simp at hj; omega⟩
theorem pth_append {S : List ((Nat × Nat) × List Nat)} {x : (Nat × Nat) × List Nat} {j : Nat} (hj : j < S.length) : pth (S ++ [x]) j = pth S j := by
  unfold pth
  rw [List.getD_eq_getElem?_getD, List.getD_eq_getElem?_getD, List.getElem?_append_left hj]
theorem pth_last {S : List ((Nat × Nat) × List Nat)} {x : (Nat × Nat) × List Nat} : pth (S ++ [x]) S.length = x.2 := by
  unfold pth
  rw [List.getD_eq_getElem?_getD, List.getElem?_append_right (Nat.le_refl _)]; simp
theorem Par.meet {k : Nat} {P : List Q} {S : List ((Nat × Nat) × List Nat)} (h : Par k P S) (hp : 0 < P.length) {i c a b : Nat} (hi : i < P.length) (hc : c < k) :
    Par k (meet kq P ⟨a, b, i, c⟩) (meet Prod.fst S ((a, b), pth S i ++ [c])) := by
  have e := h.idx (q := ⟨a, b, i, c⟩) (x := ((a, b), pth S i ++ [c])) rfl
  have hl := h.len
  unfold TidyMath.meet
  by_cases hlt : TidyMath.idx kq P ⟨a, b, i, c⟩ < P.length
  · rw [if_pos hlt, if_pos (by rw [← e, ← hl]; exact hlt)]; exact h
  · rw [if_neg hlt, if_neg (by rw [← e, ← hl]; exact hlt)]
    refine ⟨by rw [List.map_append, List.map_append, h.keys]; rfl, by rw [pth_append (by omega)]; exact h.zero, fun j h0 hj => ?_⟩
    by_cases hjl : j < P.length
    · have eg : (P ++ [(⟨a, b, i, c⟩ : Q)]).getD j q0 = P.getD j q0 := by rw [List.getD_eq_getElem?_getD, List.getD_eq_getElem?_getD, List.getElem?_append_left hjl]
      obtain ⟨h1, h2, h3⟩ := h.back j h0 hjl
      rw [eg]
      refine ⟨h1, h2, ?_⟩
      rw [pth_append (by omega), pth_append (by omega)]; exact h3
    · rw [List.length_append] at hj
      simp at hj
      obtain rfl : j = P.length := by omega
      have eg : (P ++ [(⟨a, b, i, c⟩ : Q)]).getD P.length q0 = (⟨a, b, i, c⟩ : Q) := by rw [List.getD_eq_getElem?_getD, List.getElem?_append_right (Nat.le_refl _)]; simp
      rw [eg]
      refine ⟨hi, hc, ?_⟩
      rw [pth_append (show i < S.length by omega), hl, pth_last]

theorem iv_tv (R : List Nat) : iv R = tv R.length fun t => ((R.getD t 0 : Nat) : Int) := by
  apply List.ext_getElem
  · simp [iv, tv]
  · intro i h1 h2
    have hi : i < R.length := by simpa [iv] using h1
    simp [iv, tv, List.getD, hi]
theorem tv_rev (R : List Nat) : (tv R.length fun t => ((R.getD (R.length - 1 - t) 0 : Nat) : Int)) = iv R.reverse := by
  rw [iv_tv, List.length_reverse]
  refine tv_congr fun i hi => ?_
  rw [List.getD_eq_getElem?_getD, List.getD_eq_getElem?_getD, List.getElem?_reverse hi]

set_option maxHeartbeats 4000000 in
theorem back (w : World) (B k : Nat) (v : Value) (P : List Q) (S : List ((Nat × Nat) × List Nat)) (hp : Par k P S) (h : Stp w B v P) (i : Nat) (hi : i < P.length) (hlen : P.length ≤ 10000000) :
    Calls Try.prog 65 #[v, .int .i64 i] w fun e w' => ∃ vc, e = .returned vc ∧ Lst w' w.heap.size 2 vc (iv (pth S i)) ∧ Below w.heap.size w w' := by
  obtain ⟨g, cap, cur, rfl, -, hcur, -⟩ := h.block (by omega)
  have HC := Lib.hid (fun W (hb : Below w.heap.size w W) (j : Nat) (hj : j < P.length) => (h.below hb).cells (i := j) hj)
  have HP := Lib.hid hp
  have HG := Lib.hid (lt_of_block hcur)
  obtain ⟨n, hn⟩ : ∃ n, n = P.length := ⟨_, rfl⟩
  have HN := Lib.hid hn
  rw [← hn] at hi hlen ⊢
  clear hcur h hp hn
  go_enter Try.func65, Try.ntmps65
  go_wp2_with fail
  go_loopw [1, 5] (fun a c wr => ∃ (j : Nat) (R : List Nat), j < n ∧ R.length + j ≤ i ∧ a = .int .i64 j ∧ Lst wr w.heap.size 2 c (iv R) ∧ pth S i = pth S j ++ R.reverse ∧ Below w.heap.size w wr) (fun a _ _ => (intOf a).toNat)
  case atStart => exact ⟨i, [], hi, by simp, rfl, Lst.nil _ _ _, by simp, Below.refl _ _⟩
  case round =>
    obtain ⟨j, R, hj, hR, rfl, hl, hpt, hb⟩ := hrel
    have HL := Lib.hid hl
    have HPT := Lib.hid hpt
    have HB := Lib.hid hb
    by_cases h0 : j = 0
    · subst h0
      have HPE := Lib.hid (show iv (pth S i) = iv R.reverse by rw [hpt, HP.out.zero, List.nil_append])
      have HRV := Lib.hid (Reverse.reverse wr w.heap.size _ R.length (fun t => ((R.getD t 0 : Nat) : Int)) (by rw [← iv_tv]; exact hl) hb.size (by omega))
      obtain ⟨a5, n5, c5, rfl, -⟩ := hl.shape'
      clear hl hpt hb
      go_wp2_with fail
      refine HRV.out.mono ?_
      rintro e w3 ⟨rfl, hl3, hb3⟩
      have HL3 := Lib.hid (show Lst w3 w.heap.size 2 (.slice a5 n5 c5) (iv (pth S i)) by rw [HPE.out, ← tv_rev]; exact hl3)
      have HB3 := Lib.hid hb3
      clear hl3 hb3
      go_wp2_with fail
      go_ret
      exact ⟨_, rfl, HL3.out, HB.out.trans HB3.out⟩
    · obtain ⟨hf, -, hpj⟩ := HP.out.back j (by omega) (by rw [← HN.out]; exact hj)
      have hc := HC.out wr hb j (by rw [← HN.out]; exact hj)
      obtain ⟨q, hq⟩ : ∃ q, q = P.getD j q0 := ⟨_, rfl⟩
      have hqe : P[j]'(by rw [← HN.out]; exact hj) = q := by rw [hq, List.getD_eq_getElem?_getD, List.getElem?_eq_getElem (by rw [← HN.out]; exact hj), Option.getD_some]
      rw [← hq] at hf hpj
      rw [hqe] at hc
      obtain ⟨-, -, c2, c3⟩ := hc
      have HPJ := Lib.hid hpj
      have hgl : g < wr.heap.size := by have := hb.size; have := HG.out; omega
      have hj0 : ((j : Int) != 0) = true := by simp; omega
      have HLL := Lib.hid (show (iv R).length ≤ 100000000 by unfold iv; rw [List.length_map]; omega)
      have HSB := Lib.hid hb.size
      obtain ⟨ql, qr, qf, qc⟩ := q
      have HQE := Lib.hid (show (P[j]'(by rw [← HN.out]; exact hj)).f = qf by rw [hqe])
      simp only at c2 c3 hf
      obtain ⟨a5, n5, c5, rfl, -⟩ := hl.shape'
      clear hl hpt hb hq hqe hpj
      go_wp2_with (at_builtin; refine wpList_push rfl _ _ 52 rfl 2 (.int .i64 0) 8 Try.underlying52 info2 (by decide) (by decide) w.heap.size (.slice a5 n5 c5) (iv R) (.int .i64 (qc : Nat)) HL.out HSB.out rfl HLL.out rfl _ rfl rfl ?_; intro v6 w6 hp6; have HL6 := Lib.hid hp6.lst; have HB6 := Lib.hid (HB.out.grown hp6.grow HSB.out (fun q hq => HL.out.ge hq)); have hc6 := (HC.out w6 HB6.out j (by rw [← HN.out]; exact hj)); clear hp6)
      go_roundw
      case rel =>
        refine ⟨qf, R ++ [qc], by omega, by rw [List.length_append]; simp; omega, by rw [HQE.out], by have := HL6.out; rwa [show iv R ++ [Value.int .i64 (qc : Nat)] = iv (R ++ [qc]) by simp [iv]] at this, by rw [HPT.out, HPJ.out]; simp, HB6.out⟩
      case measure => rw [HQE.out]; simp [intOf]; omega

/-! What the right automaton reads as. -/
theorem nxP_get {l : L} (hl : l.Ok) {s : Nat} (hs : s < (auP l).n) : ∃ h : s < (nxP l).length, (nxP l)[s] = (auP l).nx s ∧ ((auP l).nx s).length = wide l.k := by
  have hs' : s < (F l).length + 1 := hs
  have hlen : s < (nxP l).length := by unfold nxP; rw [List.length_cons, List.length_map]; exact hs'
  refine ⟨hlen, ?_, ?_⟩
  · show _ = (nxP l).getD s []
    rw [List.getD_eq_getElem?_getD, List.getElem?_eq_getElem hlen, Option.getD_some]
  · cases s with
    | zero => show (List.replicate (wide l.k) 0).length = _; rw [List.length_replicate]
    | succ s => rw [auP_nx (by omega), ImplRight.rowP_length]
theorem accP_len (l : L) : (accP l).length = (auP l).n := by unfold accP; rw [List.length_cons, List.length_map]; rfl
theorem nxP_len (l : L) : (nxP l).length = (auP l).n := by unfold nxP; rw [List.length_cons, List.length_map]; rfl
structure RightAt (W0 : World) (M : Nat) (l : L) (b4 b6 : Nat) : Prop where
  acc : ∀ W, Below M W0 W → ∀ s, s < (auP l).n → W.cell? ⟨b4, s, none⟩ = some (.bool ((auP l).acc s))
  row : ∀ s, s < (auP l).n → ∃ b cp, b < M ∧ ∀ W, Below M W0 W → W.cell? ⟨b6, s, none⟩ = some (.slice (some ⟨b, 0, none⟩) (wide l.k) cp) ∧ ∀ c, c < wide l.k → W.cell? ⟨b, c, none⟩ = some (.int .i64 ((stA (auP l) s c : Nat) : Int))
theorem right_read {W0 : World} {B M : Nat} {l : L} (hl : l.Ok) {va vn : Value} (hb : Built W0 B va vn (accP l) ((nxP l).map ofN)) (hM : W0.heap.size ≤ M) :
    ∃ b4 c4 b6 c6, va = .slice (some ⟨b4, 0, none⟩) (auP l).n c4 ∧ vn = .slice (some ⟨b6, 0, none⟩) (auP l).n c6 ∧ b4 < W0.heap.size ∧ b6 < W0.heap.size ∧ RightAt W0 M l b4 b6 := by
  have hpos : 0 < (auP l).n := Nat.succ_pos _
  obtain ⟨b4, c4, e4, h4, hc4, -⟩ := hb.acc.view (by rw [List.length_map, accP_len]; exact hpos)
  rw [List.length_map, accP_len] at e4
  obtain ⟨items, ho, hn, hrows⟩ := hb.rows
  have hil : items.length = (auP l).n := by
    have := congrArg List.length hrows
    rw [List.length_map, List.length_map, List.length_map, nxP_len] at this; exact this
  obtain ⟨b6, c6, e6, h6, hc6, -⟩ := hn.view (by rw [List.length_map, hil]; exact hpos)
  rw [List.length_map, hil] at e6
  refine ⟨b4, c4, b6, c6, e4, e6, h4, h6, fun W hW s hs => ?_, fun s hs => ?_⟩
  · have hs' : s < (accP l).length := by rw [accP_len]; exact hs
    rw [hW.cell (p := ⟨b4, s, none⟩) (by show b4 < M; omega), hc4 s (by rw [List.length_map]; exact hs'), List.getElem_map]
    show _ = some (Value.bool ((accP l).getD s false))
    rw [List.getD_eq_getElem?_getD, List.getElem?_eq_getElem hs', Option.getD_some]
  · obtain ⟨hn1, hn2, hn3⟩ := nxP_get hl hs
    have hsi : s < items.length := by rw [hil]; exact hs
    have hrow : (items[s]).2 = (ofN ((auP l).nx s)).map (Value.int .i64) := by
      have := List.getElem_of_eq hrows (i := s) (by rw [List.length_map]; exact hsi)
      rw [List.getElem_map, List.getElem_map, List.getElem_map, hn2] at this
      exact this
    have hlst := ho.lst _ (List.getElem_mem hsi)
    have hw : 0 < wide l.k := by have := wide_cases hl.k0 hl.k3; omega
    have hlen2 : (items[s]).2.length = wide l.k := by rw [hrow, List.length_map, ofN_length, hn3]
    obtain ⟨b, cp, e, hbl, hcell, -⟩ := hlst.view (by rw [hlen2]; exact hw)
    rw [hlen2] at e
    refine ⟨b, cp, by omega, fun W hW => ⟨?_, fun c hc => ?_⟩⟩
    · rw [hW.cell (p := ⟨b6, s, none⟩) (by show b6 < M; omega), hc6 s (by rw [List.length_map]; exact hsi), List.getElem_map, e]
    · have hc' : c < ((auP l).nx s).length := by rw [hn3]; exact hc
      rw [hW.cell (p := ⟨b, c, none⟩) (by show b < M; omega), hcell c (by rw [hlen2]; exact hc), List.getElem_of_eq hrow, List.getElem_map, stA_get hc']
      simp [ofN]
theorem stA_ltP {l : L} (hl : l.Ok) {s c : Nat} (hs : s < (auP l).n) (hc : c < wide l.k) : stA (auP l) s c < (auP l).n := by
  have hs' : s < (F l).length + 1 := hs
  have t := twin hl
  have h1 : τ l s < (auM l).n := t.fl s hs
  have hn := PairMath.auM_row hl h1
  have e : (auP l).nx s = ((auM l).nx (τ l s)).map (σ l) := t.nx s hs
  rw [stA_get (by rw [e, List.length_map, hn]; exact hc), List.getElem_of_eq e, List.getElem_map]
  exact t.gl _ ((fits hl).2 _ h1 _ (List.getElem_mem _))
theorem seen_lt {l m : L} (hl : l.Ok) (hm : m.Ok) (hk : l.k = m.k) (i : Nat) : ∀ x ∈ First.seen (stPP l m) (wide l.k) (1, 1) i, x.1.1 < (auP l).n ∧ x.1.2 < (auP m).n := by
  have h1 : 1 < (auP l).n := Nat.succ_lt_succ (F_pos l)
  have h2 : 1 < (auP m).n := Nat.succ_lt_succ (F_pos m)
  refine bfs_all Prod.fst (nxt (stPP l m) (wide l.k)) ((1, 1), []) (fun x => x.1.1 < (auP l).n ∧ x.1.2 < (auP m).n) ⟨h1, h2⟩ (fun x hx y hy => ?_) i
  unfold nxt at hy
  obtain ⟨c, hc, e⟩ := List.mem_map.1 hy
  rw [List.mem_range] at hc
  have e' := Option.some.inj e
  subst e'
  exact ⟨stA_ltP hl hx.1 hc, stA_ltP hm hx.2 (hk ▸ hc)⟩
theorem seen_len {l m : L} (hl : l.Ok) (hm : m.Ok) (hk : l.k = m.k) (i : Nat) : (First.seen (stPP l m) (wide l.k) (1, 1) i).length ≤ (auP l).n * (auP m).n := by
  refine dist_few Prod.fst (bfs_dist _ _ _ i) (fun x => x.1.1 * (auP m).n + x.1.2) _ (fun x hx y hy e => ?_) (fun x hx => ?_)
  · have hx' := seen_lt hl hm hk i x hx
    have hy' := seen_lt hl hm hk i y hy
    have e : x.1.1 * (auP m).n + x.1.2 = y.1.1 * (auP m).n + y.1.2 := e
    have e1 := congrArg (· / (auP m).n) e
    have e2 := congrArg (· % (auP m).n) e
    simp only [PairMath.pair_div hx'.2, PairMath.pair_div hy'.2, PairMath.pair_mod hx'.2, PairMath.pair_mod hy'.2] at e1 e2
    exact Prod.ext e1 e2
  · have hx' := seen_lt hl hm hk i x hx
    exact PairMath.pair_lt hx'.1 hx'.2
end Go.Proofs.Ytjplmmokbkkclaa.FirstI
/- The model's walk that finds the first list of columns: plain facts, and the lists that it keeps.
   Conditions: stated at each theorem. -/
namespace Go.Proofs.Ytjplmmokbkkclaa.FirstK
set_option linter.unusedVariables false
set_option linter.unusedSimpArgs false
set_option linter.ambiguousOpen false
set_option linter.unusedSectionVars false
set_option maxRecDepth 100000
open Go.RowKit Mem Copy Rel Valid Heap Columns Bld TidyMath TidyClass TidyAuto TidyRight SpecFiner SpecRight First FirstTidy Go.Proofs.Ytjplmmokbkkclaa.Steps FirstI

/-! What is met, for any automaton. -/
section
variable (d : Nat × Nat → Nat → Nat × Nat) (k : Nat) (s0 : Nat × Nat)
def sg (i j : Nat) : (Nat × Nat) × List Nat := (First.seen d k s0 i).getD j (s0, [])
variable {d k s0} {i : Nat}
theorem sg_get {j : Nat} (h : j < (First.seen d k s0 i).length) : sg d k s0 i j = (First.seen d k s0 i)[j] := by
  unfold sg; rw [List.getD_eq_getElem?_getD, List.getElem?_eq_getElem h, Option.getD_some]
theorem keepG {f : Nat × Nat → Bool} (hi : i < (First.seen d k s0 i).length) (hn : ∀ j, j < i → f (sg d k s0 i j).1 = false) (h : f (sg d k s0 i i).1 = false) : ∀ j, j < i + 1 → f (sg d k s0 (i + 1) j).1 = false := by
  intro j hj
  have hp : First.seen d k s0 i <+: First.seen d k s0 (i + 1) := bfs_step _ _ _ i
  have hjl : j < (First.seen d k s0 i).length := by omega
  have e : sg d k s0 (i + 1) j = sg d k s0 i j := by rw [sg_get hjl, sg_get (Nat.lt_of_lt_of_le hjl hp.length_le), prefix_get hp hjl]
  rw [e]
  by_cases hji : j < i
  · exact hn j hji
  · obtain rfl : j = i := by omega
    exact h
theorem pthG (hi : i < (First.seen d k s0 i).length) : pth (First.seen d k s0 i) i = (sg d k s0 i i).2 := by
  unfold pth
  rw [List.getD_eq_getElem?_getD, List.getElem?_eq_getElem hi, Option.getD_some, sg_get hi]
theorem midG {c : Nat} (hi : i < (First.seen d k s0 i).length) : pth (First.mid d k s0 i c) i = (sg d k s0 i i).2 ∧ ∃ h : i < (First.mid d k s0 i c).length, (First.mid d k s0 i c)[i].1 = (sg d k s0 i i).1 := by
  have hp : First.seen d k s0 i <+: First.mid d k s0 i c := part_from _ _ _ i c
  have h1 := Nat.lt_of_lt_of_le hi hp.length_le
  refine ⟨?_, h1, ?_⟩
  · unfold pth
    rw [List.getD_eq_getElem?_getD, List.getElem?_eq_getElem h1, Option.getD_some, prefix_get hp hi, sg_get hi]
  · rw [prefix_get hp hi, sg_get hi]
theorem stepG {P : List Q} {c : Nat} {ab : Nat × Nat} (hp : Par k P (First.mid d k s0 i c)) (hi : i < (First.seen d k s0 i).length) (hc : c < k) (hab : ab = d (sg d k s0 i i).1 c) :
    Par k (TidyMath.meet kq P ⟨ab.1, ab.2, i, c⟩) (First.mid d k s0 i (c + 1)) := by
  obtain ⟨h1, h2, -⟩ := midG (c := c) hi
  have hl := hp.len
  have h3 := hp.meet (by omega) (i := i) (c := c) (a := ab.1) (b := ab.2) (by omega) hc
  rw [h1] at h3
  rw [mid_step d k s0 hi hc, ← sg_get hi, ← hab]
  exact h3
end
/-- States beside an idle number. -/
def stX (x : L) (s : Nat × Nat) (c : Nat) : Nat × Nat := (stL x s.1 c, 0)
theorem runX (x : L) (p : List Nat) : ∀ s, run (stX x) (s, 0) p = (run (stL x) s p, 0) := by
  induction p with
  | nil => exact fun s => rfl
  | cons c r ih => exact fun s => ih _
def accX (x : L) (s : Nat × Nat) : Bool := x.acc.getD s.1 false
/-- The first list that an automaton takes. -/
noncomputable def firstX (x : L) : Option (List Nat) :=
  open Classical in if h : ∃ u, First.Lst (wide x.k) (fun p => x.acc.getD (run (stL x) x.start p) false = true) u then some h.choose else none
theorem firstX_some {x : L} {u : List Nat} (h : First.Lst (wide x.k) (fun p => x.acc.getD (run (stL x) x.start p) false = true) u) : firstX x = some u := by
  unfold firstX
  have hex : ∃ u, First.Lst (wide x.k) (fun p => x.acc.getD (run (stL x) x.start p) false = true) u := ⟨u, h⟩
  rw [dif_pos hex, hex.choose_spec.unique h]
theorem firstX_none {x : L} (h : ∀ p, Low (wide x.k) p → ¬ x.acc.getD (run (stL x) x.start p) false = true) : firstX x = none := by
  unfold firstX
  rw [dif_neg]
  rintro ⟨u, hu⟩
  exact h u hu.low hu.ok
theorem firstX_congr {x : L} {g : Bool → Bool → Bool} {l m : L} (hk : x.k = l.k) (h : ∀ p, Low (wide l.k) p → x.acc.getD (run (stL x) x.start p) false = g (Tk l p) (Tk m p)) : firstX x = firstPP g l m := by
  by_cases hex : ∃ u, First.Lst (wide l.k) (fun p => g (Tk l p) (Tk m p) = true) u
  · obtain ⟨u, hu⟩ := hex
    rw [firstPP_some hu]
    refine firstX_some ?_
    rw [hk]
    exact First.Lst.congr (fun p hp => by rw [h p hp]) hu
  · rw [firstPP, dif_neg hex, firstX, dif_neg]
    rintro ⟨u, hu⟩
    rw [hk] at hu
    exact hex ⟨u, First.Lst.congr (fun p hp => by rw [h p hp]) hu⟩
section
variable {x : L} {i : Nat}
theorem seenX_lt (hx : x.Ok) (i : Nat) : ∀ y ∈ First.seen (stX x) (wide x.k) (x.start, 0) i, y.1.1 < x.acc.length ∧ y.1.2 = 0 := by
  refine bfs_all Prod.fst (nxt (stX x) (wide x.k)) ((x.start, 0), []) (fun y => y.1.1 < x.acc.length ∧ y.1.2 = 0) ⟨hx.st, rfl⟩ (fun y hy z hz => ?_) i
  unfold nxt at hz
  obtain ⟨c, hc, e⟩ := List.mem_map.1 hz
  rw [List.mem_range] at hc
  have e' := Option.some.inj e
  subst e'
  exact ⟨hx.lt _ hy.1 c hc, rfl⟩
theorem seenX_len (hx : x.Ok) (i : Nat) : (First.seen (stX x) (wide x.k) (x.start, 0) i).length ≤ x.acc.length := by
  refine dist_few Prod.fst (bfs_dist _ _ _ i) (fun y => y.1.1) _ (fun y hy z hz e => ?_) (fun y hy => (seenX_lt hx i y hy).1)
  exact Prod.ext e (by rw [(seenX_lt hx i y hy).2, (seenX_lt hx i z hz).2])
theorem midX_len (hx : x.Ok) {c : Nat} (hi : i < (First.seen (stX x) (wide x.k) (x.start, 0) i).length) (hc : c ≤ wide x.k) : (First.mid (stX x) (wide x.k) (x.start, 0) i c).length ≤ x.acc.length := by
  have h1 : First.mid (stX x) (wide x.k) (x.start, 0) i c <+: First.seen (stX x) (wide x.k) (x.start, 0) (i + 1) := by
    rw [← mid_all (stX x) (wide x.k) (x.start, 0) hi]
    unfold First.mid
    rw [part_eq _ _ _ hi, part_eq _ _ _ hi]
    exact row_take_prefix _ _ _ hc
  exact Nat.le_trans h1.length_le (seenX_len hx (i + 1))
theorem doneX_some (hx : x.Ok) (hi : i < (First.seen (stX x) (wide x.k) (x.start, 0) i).length) (hn : ∀ j, j < i → accX x (sg (stX x) (wide x.k) (x.start, 0) i j).1 = false) (h : accX x (sg (stX x) (wide x.k) (x.start, 0) i i).1 = true) :
    firstX x = some (sg (stX x) (wide x.k) (x.start, 0) i i).2 ∧ Low (wide x.k) (sg (stX x) (wide x.k) (x.start, 0) i i).2 := by
  rw [sg_get hi] at h ⊢
  have h1 := first_some (stX x) (wide x.k) (x.start, 0) (accX x) hi (fun j hj => by rw [← sg_get (by omega)]; exact hn j hj) h
  have h2 := First.Lst.congr (fun p hp => by show accX x (run (stX x) (x.start, 0) p) = true ↔ x.acc.getD (run (stL x) x.start p) false = true; rw [runX]; rfl) h1
  exact ⟨firstX_some h2, h2.low⟩
theorem doneX_none (hi : (First.seen (stX x) (wide x.k) (x.start, 0) i).length ≤ i) (hn : ∀ j, j < i → accX x (sg (stX x) (wide x.k) (x.start, 0) i j).1 = false) : firstX x = none := by
  have h1 := first_none (stX x) (wide x.k) (x.start, 0) (accX x) hi (fun j hj => by rw [← sg_get hj]; exact hn j (by omega))
  refine firstX_none fun p hp hg => h1 p hp ?_
  rw [runX]
  exact hg
end

/-! The lists that are kept. -/
def lv (P : List Q) : List Value := P.map fun q => .int .i64 (q.l : Nat)
def cv (P : List Q) : List Value := P.map fun q => .int .i64 (q.c : Nat)
def fAt (P : List Q) (j : Nat) : Int := if j = 0 then -1 else ((P.getD j q0).f : Nat)
def fv (P : List Q) : List Value := (List.range P.length).map fun j => .int .i64 (fAt P j)
theorem lv_push (P : List Q) (q : Q) : lv (P ++ [q]) = lv P ++ [.int .i64 (q.l : Nat)] := by simp [lv]
theorem cv_push (P : List Q) (q : Q) : cv (P ++ [q]) = cv P ++ [.int .i64 (q.c : Nat)] := by simp [cv]
theorem fv_push (P : List Q) (q : Q) (hp : 0 < P.length) : fv (P ++ [q]) = fv P ++ [.int .i64 (q.f : Nat)] := by
  unfold fv
  rw [List.length_append, show P.length + [q].length = P.length + 1 from rfl, List.range_succ, List.map_append]
  congr 1
  · refine List.map_congr_left fun j hj => ?_
    rw [List.mem_range] at hj
    unfold fAt
    rw [List.getD_eq_getElem?_getD, List.getD_eq_getElem?_getD, List.getElem?_append_left hj]
  · unfold fAt
    rw [List.map_singleton, if_neg (by omega), List.getD_eq_getElem?_getD, List.getElem?_append_right (Nat.le_refl _)]
    simp
theorem lv_get (P : List Q) {i : Nat} (h : i < (lv P).length) : (lv P)[i] = .int .i64 ((P[i]'(by simpa [lv] using h)).l : Nat) := by simp [lv]
theorem cv_get (P : List Q) {i : Nat} (h : i < (cv P).length) : (cv P)[i] = .int .i64 ((P[i]'(by simpa [cv] using h)).c : Nat) := by simp [cv]
theorem fv_get (P : List Q) {i : Nat} (h : i < (fv P).length) : (fv P)[i] = .int .i64 (fAt P i) := by simp [fv]
theorem lv_len (P : List Q) : (lv P).length = P.length := by simp [lv]
theorem cv_len (P : List Q) : (cv P).length = P.length := by simp [cv]
theorem fv_len (P : List Q) : (fv P).length = P.length := by simp [fv]

structure FG (w : World) (B : Nat) (vs vl vf vb : Value) (S L F C : List Value) : Prop where
  own : Heap.Own w B 2 [(vl, L), (vb, C)]
  frm : Heap.Lst w B 3 vf F
  seen : Heap.Lst w B 4 vs S
section
variable {w w' : World} {B : Nat} {vs vl vf vb : Value} {S L F C : List Value}
theorem FG.list (h : FG w B vs vl vf vb S L F C) : Heap.Lst w B 2 vl L := Own.get [] _ h.own
theorem FG.cols (h : FG w B vs vl vf vb S L F C) : Heap.Lst w B 2 vb C := Own.get [(vl, L)] [] h.own
theorem FG.below (h : FG w B vs vl vf vb S L F C) (hb : Below w.heap.size w w') : FG w' B vs vl vf vb S L F C := ⟨h.own.below hb, h.frm.below hb, h.seen.below hb⟩
theorem FG.drewN (h : FG w B vs vl vf vb S L F C) (m : Nat) : FG (w.drewN m) B vs vl vf vb S L F C := h.below (below_drewN (Below.refl _ _) m)
theorem FG.setS {g n cap : Nat} (h : FG w B (.slice (some ⟨g, 0, none⟩) n cap) vl vf vb S L F C) {i : Nat} (hi : i < S.length) (u : Value) : FG (w.setCell ⟨g, i, none⟩ u) B (.slice (some ⟨g, 0, none⟩) n cap) vl vf vb (S.set i u) L F C := by
  obtain ⟨cur, hcur⟩ := ImplRight.lst_block h.seen
  exact ⟨h.own.setOther (a := ⟨g, i, none⟩) hcur (by decide) u, h.frm.setOther (block_apart h.frm hcur (by decide)) u, h.seen.set hi u⟩
theorem FG.pushL {vl' u : Value} (h : FG w B vs vl vf vb S L F C) (hp : Pushed w w' B 2 vl vl' L u) : FG w' B vs vl' vf vb S (L ++ [u]) F C :=
  ⟨Own.push [] [(vb, C)] h.own hp, h.frm.grown hp.grow fun k hk => h.list.apart h.frm (by decide) k hk, h.seen.grown hp.grow fun k hk => h.list.apart h.seen (by decide) k hk⟩
theorem FG.pushC {vb' u : Value} (h : FG w B vs vl vf vb S L F C) (hp : Pushed w w' B 2 vb vb' C u) : FG w' B vs vl vf vb' S L F (C ++ [u]) :=
  ⟨Own.push [(vl, L)] [] h.own hp, h.frm.grown hp.grow fun k hk => h.cols.apart h.frm (by decide) k hk, h.seen.grown hp.grow fun k hk => h.cols.apart h.seen (by decide) k hk⟩
theorem FG.pushF {vf' u : Value} (h : FG w B vs vl vf vb S L F C) (hp : Pushed w w' B 3 vf vf' F u) : FG w' B vs vl vf' vb S L (F ++ [u]) C :=
  ⟨h.own.grown hp.grow fun k hk p hm => h.frm.apart (h.own.lst p hm) (by decide) k hk, hp.lst, h.seen.grown hp.grow fun k hk => h.frm.apart h.seen (by decide) k hk⟩
end
theorem infoInt : (Try.prog.info? 3).map (fun i => (i.zero, i.size, i.bytes)) = some (some (.int .i64 0), 1, 8) := by kernel_rfl
end Go.Proofs.Ytjplmmokbkkclaa.FirstK
/- What is appended: a list that is another's.
   Conditions: stated at each theorem. -/
namespace Go.Proofs.Ytjplmmokbkkclaa.Push
set_option linter.unusedVariables false
set_option linter.unusedSimpArgs false
open Go.RowKit Mem Copy Heap

theorem tv_snoc (c : Nat) (T : Nat → Int) : tv c T ++ [Value.int .i64 (T c)] = tv (c + 1) T := by unfold tv; rw [List.range_succ, List.map_append]; rfl
/-- The law for appending a list that is another's. -/
theorem wpList_pushs {P : Program} {w : World} {ops : Array Oper} {rest : List Oper} {o : Oper} {a : Act} {Q : Exit → Act → World → Prop} (hgd : o.guard = none) (s x : Operand) (t : TypeId)
    (ho : o.op = .call { callee := .builtin .append, args := #[s, x], argTypes := #[t, t] })
    (e : TypeId) (z : Value) (bytes : Nat) (ht : P.underlying t = some (.slice e)) (hinfo : (P.info? e).map (fun i => (i.zero, i.size, i.bytes)) = some (some z, 1, bytes)) (hzs : z.cells.size = 1) (hby : bytes ≤ 24)
    (B : Nat) (v : Value) (xs : List Value) (hown : Lst w B e v xs) (hB : B ≤ w.heap.size) (news : List Value) (h1 : ∀ u ∈ news, u.oneCell' = true) (hlen : xs.length + news.length ≤ 100000000) (hs : a.eval s = v) (ad : Addr) (m c : Nat) (hx : a.eval x = .slice (some ad) m c) (hm : news.length = m)
    (hnews : ∀ j u, news[j]? = some u → w.cell? (ad.add j) = some u)
    (h : ∀ v' w', Lst w' B e v' (xs ++ news) → w.grownBy w' v.ownBlock → wpList P ops Q rest (a.put o.dst v') w') : wpList P ops Q (o :: rest) a w := by
  obtain ⟨i, hi, hz, hsize, hbytes⟩ := info_parts hinfo
  refine wpList_append_own_at (P := P) _ hgd s x t ho B e i z 1 bytes ht hi hz hsize hbytes hzs (by decide) v xs.length xs hs hown ad m c news hx (by rw [hm, Nat.mul_one]) hnews h1 (by unfold maxLen; omega) ?_ hB ?_
  · have : (xs.length + m) * bytes ≤ 100000000 * 24 := Nat.mul_le_mul (by omega) hby
    omega
  · intro v' w' hown' hg _ _
    refine h v' w' ?_ hg
    unfold Lst
    rw [List.length_append, hm]
    exact hown'

end Go.Proofs.Ytjplmmokbkkclaa.Push
