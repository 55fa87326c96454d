
/- Two transducers are the same, by the model and by the program.
   Conditions: they are read as XEdg's text says. -/
import Derived.Test.YtjoiaenkmmmmpaaTrImplValid
import Derived.Test.YtjoiaenkmmmmpaaSame
import Derived.Laws.StructEq
import Derived.Deep.QuietTactic
import Derived.BigQuiet
namespace Go.Proofs.Ytjoiaenkmmmmpaa.TrSame
set_option linter.unusedVariables false
set_option linter.unusedSimpArgs false
open Go.RowKit Mem Rel Edg EdgEq EdgCopy TrValid Same

theorem noGuard : Try.prog.eqGuardType Try.prog.depth 50 = false := by kernel_rfl
theorem notHeld : Try.prog.stoodInHeld 50 = false := by kernel_rfl
theorem fieldsE : Try.prog.underlying 50 = some (.struct (Try.prog.fieldsOf 50)) := by
  unfold Program.fieldsOf; rw [Try.underlying50]
theorem equalE (x y : E) (d : Nat) (w : World) : (Op.equalIn (d + 2) 50 (.agg #[.int .i64 x.src, .int .i64 x.dst, .string x.inn, .string x.out]) (.agg #[.int .i64 y.src, .int .i64 y.dst, .string y.inn, .string y.out])).run Try.prog w = .ok (sameE x y) w := by
  rw [run_equalIn_agg w (d + 1) 50 _ _ fieldsE notHeld]
  unfold Program.fieldsOf
  rw [Try.underlying50]
  have hI : Try.prog.cellsOf 2 = 1 := by kernel_rfl
  have hS : Try.prog.cellsOf 9 = 1 := by kernel_rfl
  simp [Op.eqFields, go_sem, Try.underlying2, Try.underlying9]
  unfold sameE
  by_cases h1 : x.src = y.src
  · by_cases h2 : x.dst = y.dst
    · by_cases h3 : x.inn = y.inn
      · by_cases h4 : x.out = y.out
        · have e : x = y := by obtain ⟨a, b, c, f⟩ := x; obtain ⟨a', b', c', f'⟩ := y; simp_all
          rw [if_pos h1, if_pos h2, if_pos (by rw [h3]), if_pos (by rw [h4]), decide_eq_true e]
        · have e : ¬ x = y := fun e => h4 (by rw [e])
          have t4 : ¬ x.out.toList = y.out.toList := by simpa using bytes_ne h4
          rw [if_pos h1, if_pos h2, if_pos (by rw [h3]), if_neg t4, decide_eq_false e]
      · have e : ¬ x = y := fun e => h3 (by rw [e])
        have t3 : ¬ x.inn.toList = y.inn.toList := by simpa using bytes_ne h3
        rw [if_pos h1, if_pos h2, if_neg t3, decide_eq_false e]
    · have e : ¬ x = y := fun e => h2 (by rw [e])
      rw [if_pos h1, if_neg h2, decide_eq_false e]
  · have e : ¬ x = y := fun e => h1 (by rw [e])
    rw [if_neg h1, decide_eq_false e]
theorem equalL (x y : E) (w : World) : (Op.equalIn 10000 50 (.agg #[.int .i64 x.src, .int .i64 x.dst, .string x.inn, .string x.out]) (.agg #[.int .i64 y.src, .int .i64 y.dst, .string y.inn, .string y.out])).run Try.prog w = .ok (sameE x y) w := equalE x y 9998 w

set_option maxHeartbeats 1000000 in
theorem libEdges (xs ys : List E) (va vb : Value) (w : World) (B : Nat) (ha : Edges w B va xs) (hb : Edges w B vb ys) :
    Calls Try.prog 46 #[va, vb] w fun e w' => e = .returned (.bool (same xs ys)) ∧ ∃ n, w' = w.drewN n := by
  obtain ⟨a, ba, oa, ca, rfl, hma, haa, hca⟩ := ha
  obtain ⟨b, bb, ob, cb, rfl, hmb, hbb, hcb⟩ := hb
  unfold maxLen at hma hmb
  by_cases hl : xs.length = ys.length
  · have HL := Lib.hid hl
    obtain ⟨n, hn⟩ : ∃ n, n = xs.length := ⟨_, rfl⟩
    have hn2 : ys.length = n := by omega
    rw [← hn, hn2]
    rw [← hn] at hma hca haa
    rw [hn2] at hcb hbb
    have HN := Lib.hid hn
    have HN2 := Lib.hid hn2
    have HA := Lib.hid hca
    have HBB := Lib.hid hcb
    have hgd := noGuard
    clear hl hn hn2 hmb hca hcb
    go_enter Try.func46, Try.ntmps46
    go_wp2
    go_loopw [13] (fun i wr => ∃ k m : Nat, k ≤ n ∧ i = .int .i64 k ∧ xs.take k = ys.take k ∧ wr = w.drewN m) (fun i _ => n - (intOf i).toNat)
    case atStart => exact ⟨0, 0, Nat.zero_le _, rfl, rfl, rfl⟩
    case round =>
      obtain ⟨k, m, hk, rfl, hg, rfl⟩ := hrel
      have HG := Lib.hid hg
      clear hg
      by_cases hlt : k < n
      · obtain rfl := (haa (by omega)).1
        obtain rfl := (hbb (by omega)).1
        clear haa hbb
        obtain ⟨c0, c1, c2, c3⟩ := (HA.out k hlt).1
        obtain ⟨d0, d1, d2, d3⟩ := (HBB.out k hlt).1
        obtain ⟨x, hx⟩ : ∃ x, x = xs.getD k noE := ⟨_, rfl⟩
        obtain ⟨y, hy⟩ : ∃ y, y = ys.getD k noE := ⟨_, rfl⟩
        rw [← hx] at c0 c1 c2 c3
        rw [← hy] at d0 d1 d2 d3
        have HX := Lib.hid hx
        have HY := Lib.hid hy
        clear hx hy
        by_cases he : x = y
        all_goals
          have HE := Lib.hid he
          have hEq := fun w => equalL x y w
          first
            | rw [sameE_yes he] at hEq
            | rw [sameE_no he] at hEq
          clear he
          obtain ⟨xs', xd, xi, xo⟩ := x
          obtain ⟨ys', yd, yi, yo⟩ := y
          simp only at c0 c1 c2 c3 d0 d1 d2 d3 hEq
          go_wp2
          go_quiet (fail)
          go_wp2
          first
            | (go_roundw
               case rel => exact ⟨k + 1, _, by omega, by go_num, same_step xs ys noE k (by rw [← HN.out]; exact hlt) (by rw [HN2.out]; exact hlt) HG.out (by rw [← HX.out, ← HY.out]; exact HE.out), rfl⟩
               case measure => simp [intOf]; omega)
            | (go_ret
               exact ⟨by rw [same_no xs ys noE k (by rw [← HX.out, ← HY.out]; exact HE.out)]; rfl, _, World.drewN_drewN ..⟩)
      · have HE := Lib.hid (same_end xs ys k (by rw [← HN.out]; omega) HL.out HG.out)
        go_wp2
        go_ret
        exact ⟨by rw [HE.out]; rfl, _, rfl⟩
  · have HS := Lib.hid (same_len xs ys hl)
    have h1 : ((xs.length : Int) != (ys.length : Int)) = true := by rw [bne_iff_ne]; omega
    obtain ⟨p, hp⟩ : ∃ p : Nat, p = xs.length := ⟨_, rfl⟩
    obtain ⟨q, hq⟩ : ∃ q : Nat, q = ys.length := ⟨_, rfl⟩
    rw [← hp, ← hq] at h1
    rw [← hp, ← hq]
    clear hca hcb hl hma hmb hp hq haa hbb
    go_enter Try.func46, Try.ntmps46
    go_wp2
    go_ret
    exact ⟨by rw [HS.out]; rfl, 0, rfl⟩

theorem sameT_no1 {s t : T} (h : ¬ s.start = t.start) : sameT s t = false := by simp [sameT, h]
theorem sameT_no2 {s t : T} (h : same s.accept t.accept = false) : sameT s t = false := by simp [sameT, h]
theorem sameT_no3 {s t : T} (h : same s.edges t.edges = false) : sameT s t = false := by simp [sameT, h]
theorem sameT_yes {s t : T} (h1 : s.start = t.start) (h2 : same s.accept t.accept = true) (h3 : same s.edges t.edges = true) : sameT s t = true := by simp [sameT, h1, h2, h3]
theorem quiet0 {P : Program} {f : FuncId} {args : Array Value} {w : World} {v : Value} {x : Nat}
    (h : ∀ q, Calls P f args (w.drewN q) fun e w' => e = .returned v ∧ ∃ n, w' = (w.drewN q).drewN n) :
    Calls P f args (w.drewN x) fun e w'' => e = .returned v ∧ ∃ n, w'' = w.drewN n := Calls.quiet_of (h x)

set_option maxHeartbeats 2000000 in
theorem specSameP (s t : T) (va vn ua un : Value) (bp bq : Nat) (w : World) (B : Nat) (h : TrPtr w B bp s va vn) (g : TrPtr w B bq t ua un) :
    Calls Try.prog 44 #[.pointer (some ⟨bp, 0, none⟩), .pointer (some ⟨bq, 0, none⟩)] w fun e w' => e = .returned (.bool (sameT s t)) ∧ ∃ n, w' = w.drewN n := by
  have HBL := Lib.hid (fun z => specBools s.accept t.accept va ua (w.drewN z) B (Sl.drewN h.acc z) (Sl.drewN g.acc z))
  obtain ⟨⟨k0, k1, k2, -⟩, hacc, hed⟩ := h
  obtain ⟨⟨l0, l1, l2, -⟩, hacc', hed'⟩ := g
  obtain ⟨ss, sa, se⟩ := s
  obtain ⟨ts, ta, te⟩ := t
  simp only at k0 l0 hacc hacc' hed hed' HBL ⊢
  obtain ⟨aa, ba, oa, ca, rfl, hma, -, -⟩ := hacc
  obtain ⟨aa', ba', oa', ca', rfl, hma', -, -⟩ := hacc'
  obtain ⟨ab, bb, ob, cb, rfl, hmb, hbb, hcb⟩ := hed
  obtain ⟨ab', bb', ob', cb', rfl, hmb', hbb', hcb'⟩ := hed'
  unfold maxLen at hma hma' hmb hmb'
  obtain ⟨p, hp⟩ : ∃ p, p = sa.length := ⟨_, rfl⟩
  obtain ⟨p', hp'⟩ : ∃ p', p' = ta.length := ⟨_, rfl⟩
  rw [← hp] at hma k1 HBL
  rw [← hp'] at hma' l1 HBL
  clear hp hp'
  have HE1 := Lib.hid (fun h : ¬ ss = ts => sameT_no1 (s := ⟨ss, sa, se⟩) (t := ⟨ts, ta, te⟩) h)
  have HE2 := Lib.hid (fun h : same sa ta = false => sameT_no2 (s := ⟨ss, sa, se⟩) (t := ⟨ts, ta, te⟩) h)
  have HE3 := Lib.hid (fun h : same se te = false => sameT_no3 (s := ⟨ss, sa, se⟩) (t := ⟨ts, ta, te⟩) h)
  have HE4 := Lib.hid (fun (h1 : ss = ts) (h2 : same sa ta = true) (h3 : same se te = true) => sameT_yes (s := ⟨ss, sa, se⟩) (t := ⟨ts, ta, te⟩) h1 h2 h3)
  by_cases h1 : ss = ts
  · cases h2 : same sa ta with
    | false =>
      have HS := Lib.hid (HE2.out h2)
      rw [h2] at HBL
      have t1 : (ss != ts) = false := by simp [h1]
      subst h1
      clear t1 h2
      obtain ⟨n, hn⟩ : ∃ n, n = se.length := ⟨_, rfl⟩
      obtain ⟨n', hn'⟩ : ∃ n', n' = te.length := ⟨_, rfl⟩
      rw [← hn] at k2 hmb
      rw [← hn'] at l2 hmb'
      clear hn hn' hbb hbb' hcb hcb'
      go_enter Try.func44, Try.ntmps44
      go_wp2
      go_quiet ((go_at_call 77; exact quiet0 HBL.out))
      go_wp2
      go_ret
      exact ⟨by rw [HS.out]; rfl, _, rfl⟩
    | true =>
      rw [h2] at HBL
      have H2 := Lib.hid h2
      clear h2
      by_cases hl : se.length = te.length
      · have HL := Lib.hid hl
        obtain ⟨n, hn⟩ : ∃ n, n = se.length := ⟨_, rfl⟩
        have hn2 : te.length = n := by omega
        rw [← hn] at hmb k2 hbb hcb
        rw [hn2] at hcb' hbb' l2
        have HN := Lib.hid hn
        have HN2 := Lib.hid hn2
        have HA := Lib.hid hcb
        have HBB := Lib.hid hcb'
        have hgd := noGuard
        have H1 := Lib.hid h1
        have hnn : ((n : Int) != (n : Int)) = false := by simp
        subst h1
        clear hl hn hn2 hmb' hcb hcb' hnn
        go_enter Try.func44, Try.ntmps44
        go_wp2
        go_quiet ((go_at_call 77; exact quiet0 HBL.out))
        go_wp2
        go_loopw [5] (fun i wr => ∃ k m : Nat, k ≤ n ∧ i = .int .i64 k ∧ se.take k = te.take k ∧ wr = w.drewN m) (fun i _ => n - (intOf i).toNat)
        case atStart => exact ⟨0, _, Nat.zero_le _, rfl, rfl, rfl⟩
        case round =>
          obtain ⟨k, m, hk, rfl, hg, rfl⟩ := hrel
          have HG := Lib.hid hg
          clear hg
          by_cases hlt : k < n
          · obtain rfl := (hbb (by omega)).1
            obtain rfl := (hbb' (by omega)).1
            clear hbb hbb'
            obtain ⟨c0, c1, c2, c3⟩ := (HA.out k hlt).1
            obtain ⟨d0, d1, d2, d3⟩ := (HBB.out k hlt).1
            obtain ⟨x, hx⟩ : ∃ x, x = se.getD k noE := ⟨_, rfl⟩
            obtain ⟨y, hy⟩ : ∃ y, y = te.getD k noE := ⟨_, rfl⟩
            rw [← hx] at c0 c1 c2 c3
            rw [← hy] at d0 d1 d2 d3
            have HX := Lib.hid hx
            have HY := Lib.hid hy
            clear hx hy
            by_cases he : x = y
            all_goals
              have HE := Lib.hid he
              have hEq := fun w => equalL x y w
              first
                | rw [sameE_yes he] at hEq
                | rw [sameE_no he] at hEq
              clear he
              obtain ⟨xs', xd, xi, xo⟩ := x
              obtain ⟨ys', yd, yi, yo⟩ := y
              simp only at c0 c1 c2 c3 d0 d1 d2 d3 hEq
              go_wp2
              go_quiet (fail)
              go_wp2
              first
                | (go_roundw
                   case rel => exact ⟨k + 1, _, by omega, by go_num, same_step se te noE k (by rw [← HN.out]; exact hlt) (by rw [HN2.out]; exact hlt) HG.out (by rw [← HX.out, ← HY.out]; exact HE.out), rfl⟩
                   case measure => simp [intOf]; omega)
                | (go_ret
                   exact ⟨by rw [HE3.out (same_no se te noE k (by rw [← HX.out, ← HY.out]; exact HE.out))]; rfl, _, World.drewN_drewN ..⟩)
          · have HE := Lib.hid (HE4.out H1.out H2.out (same_end se te k (by rw [← HN.out]; omega) HL.out HG.out))
            go_wp2
            go_ret
            exact ⟨by rw [HE.out]; rfl, _, rfl⟩
      · have HS := Lib.hid (HE3.out (same_len se te hl))
        have d1 : ((se.length : Int) != (te.length : Int)) = true := by rw [bne_iff_ne]; omega
        obtain ⟨n, hn⟩ : ∃ n, n = se.length := ⟨_, rfl⟩
        obtain ⟨n', hn'⟩ : ∃ n', n' = te.length := ⟨_, rfl⟩
        rw [← hn] at k2 hmb d1
        rw [← hn'] at l2 hmb' d1
        subst h1
        clear hn hn' hbb hbb' hcb hcb' hl
        go_enter Try.func44, Try.ntmps44
        go_wp2
        go_quiet ((go_at_call 77; exact quiet0 HBL.out))
        go_wp2
        go_ret
        exact ⟨by rw [HS.out]; rfl, _, rfl⟩
  · have HS := Lib.hid (HE1.out h1)
    have t1 : (ss != ts) = true := by rw [bne_iff_ne]; exact h1
    clear hbb hbb' hcb hcb' h1
    go_enter Try.func44, Try.ntmps44
    go_wp2
    go_quiet (fail)
    go_wp2
    go_ret
    exact ⟨by rw [HS.out]; rfl, _, rfl⟩

theorem specSame (v u : Value) (s t : T) (w : World) (B : Nat) (h : TrAt w B v s) (g : TrAt w B u t) (hB : B ≤ w.heap.size) :
    Calls Try.prog 17 #[v, u] w fun e w' => e = .returned (.bool (sameT s t)) ∧ Below w.heap.size w w' := by
  obtain ⟨va, vn, rfl, hacc, hed⟩ := h
  obtain ⟨ua, un, rfl, hacc', hed'⟩ := g
  obtain ⟨o, ho⟩ : ∃ o : Obj, o = .cells #[.int .i64 s.start, va, vn] 30 := ⟨_, rfl⟩
  obtain ⟨o', ho'⟩ : ∃ o : Obj, o = .cells #[.int .i64 t.start, ua, un] 30 := ⟨_, rfl⟩
  have hb : Below w.heap.size w ((w.alloc o).alloc o') := base_box (base_box (Below.refl _ _) _) _
  have HP := Lib.hid (specSameP s t va vn ua un w.heap.size (w.heap.size + 1) ((w.alloc o).alloc o') B ⟨by rw [ho]; exact (Kept3.new _ _ _ _ _).box _, hacc.below hb hB, hed.below hb hB⟩
    ⟨by rw [ho']; have := Kept3.new (w.alloc o) (.int .i64 t.start) ua un 30; rwa [World.size_alloc] at this, hacc'.below hb hB, hed'.below hb hB⟩)
  have HB := Lib.hid hb
  clear hb hacc hed hacc' hed'
  go_enter Try.func17, Try.ntmps17
  go_wp2_with fail
  rw [← ho, ← ho']
  clear ho ho'
  refine HP.out.mono ?_
  rintro e w' ⟨rfl, m, rfl⟩
  go_wp2
  go_ret
  exact ⟨rfl, below_drewN HB.out _⟩

set_option maxHeartbeats 1000000 in
theorem implSame (v u : Value) (s t : T) (w : World) (B : Nat) (h : TrAt w B v s) (g : TrAt w B u t) (hB : B ≤ w.heap.size) :
    Calls Try.prog 18 #[v, u] w fun e w' => e = .returned (.bool (sameT s t)) ∧ Below w.heap.size w w' := by
  obtain ⟨va, vn, rfl, hacc, hed⟩ := h
  obtain ⟨ua, un, rfl, hacc', hed'⟩ := g
  obtain ⟨ss, sa, se⟩ := s
  obtain ⟨ts, ta, te⟩ := t
  simp only at hacc hacc' hed hed' ⊢
  have HC := Lib.hid (fun W (h : Below w.heap.size w W) => libBools sa ta va ua W B (hacc.below h hB) (hacc'.below h hB))
  have HD := Lib.hid (fun W (h : Below w.heap.size w W) => libEdges se te vn un W B (hed.below h hB) (hed'.below h hB))
  have HB0 := Lib.hid (base_box (base_box (Below.refl _ w) (.cells #[.int .i64 ss, va, vn] 30)) (.cells #[.int .i64 ts, ua, un] 30))
  clear hacc hacc' hed hed'
  by_cases hst : ss = ts
  · subst hst
    obtain ⟨p, hp⟩ : ∃ p, p = same sa ta := ⟨_, rfl⟩
    obtain ⟨q, hq⟩ : ∃ q, q = same se te := ⟨_, rfl⟩
    have HE := Lib.hid (show sameT ⟨ss, sa, se⟩ ⟨ss, ta, te⟩ = (p && q) by simp [sameT, hp, hq])
    rw [← hp] at HC
    rw [← hq] at HD
    clear hp hq
    cases p with
    | false =>
      go_enter Try.func18, Try.ntmps18
      go_wp2_with fail
      refine (HC.out _ HB0.out).mono ?_
      rintro e w1 ⟨rfl, n1, rfl⟩
      go_wp2
      go_ret
      exact ⟨by rw [HE.out]; rfl, by exact below_drewN HB0.out _⟩
    | true =>
      cases q
      all_goals
        go_enter Try.func18, Try.ntmps18
        go_wp2_with fail
        refine (HC.out _ HB0.out).mono ?_
        rintro e w1 ⟨rfl, n1, rfl⟩
        go_wp2_with fail
        refine (HD.out _ (below_drewN HB0.out _)).mono ?_
        rintro e w1 ⟨rfl, n2, rfl⟩
        go_wp2
        go_ret
        exact ⟨by rw [HE.out]; rfl, by exact below_drewN HB0.out _⟩
  · have HE := Lib.hid (show sameT ⟨ss, sa, se⟩ ⟨ts, ta, te⟩ = false by simp [sameT, hst])
    have h1 : (ss == ts) = false := by simpa using hst
    go_enter Try.func18, Try.ntmps18
    go_wp2
    go_ret
    exact ⟨by rw [HE.out]; rfl, HB0.out⟩
end Go.Proofs.Ytjoiaenkmmmmpaa.TrSame
