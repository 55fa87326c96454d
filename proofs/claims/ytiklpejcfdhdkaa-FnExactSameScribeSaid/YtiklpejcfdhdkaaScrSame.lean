
/- Two scribes are the same, by the model and by the program.
   Conditions: they are read as XScr's text says. -/
import Derived.Test.YtiklpejcfdhdkaaScrValid
import Derived.Test.YtiklpejcfdhdkaaSame
namespace Go.Proofs.Ytiklpejcfdhdkaa.ScrSame
set_option linter.unusedVariables false
set_option linter.unusedSimpArgs false
set_option maxRecDepth 100000
open Go.RowKit Mem Rel Scr ScrValid Same

theorem sameX_no1 {s t : X} (h : same s.accept t.accept = false) : sameX s t = false := by simp [sameX, h]
theorem sameX_no2 {s t : X} (h : same s.next t.next = false) : sameX s t = false := by simp [sameX, h]
theorem sameX_no3 {s t : X} (h : same s.out t.out = false) : sameX s t = false := by simp [sameX, h]
theorem sameX_yes {s t : X} (h1 : same s.accept t.accept = true) (h2 : same s.next t.next = true) (h3 : same s.out t.out = true) : sameX s t = true := by simp [sameX, h1, h2, h3]

set_option maxHeartbeats 4000000 in
theorem specSame (v u : Value) (s t : X) (w : World) (B : Nat) (h : ScAt w B v s) (g : ScAt w B u t) (hB : B ≤ w.heap.size) :
    Calls Try.prog 12 #[v, u] w fun e w' => e = .returned (.bool (sameX s t)) ∧ Below w.heap.size w w' := by
  obtain ⟨va, vn, vo, rfl, hacc, hn, ho⟩ := h
  obtain ⟨ua, un, uo, rfl, hacc', hn', ho'⟩ := g
  obtain ⟨sa, sn, so⟩ := s
  obtain ⟨ta, tn, to⟩ := t
  simp only at hacc hacc' hn hn' ho ho' ⊢
  have HBL := Lib.hid (fun W (h : Below w.heap.size w W) => specBools sa ta va ua W B (hacc.below h hB) (hacc'.below h hB))
  have HE1 := Lib.hid (fun h => sameX_no1 (s := ⟨sa, sn, so⟩) (t := ⟨ta, tn, to⟩) h)
  have HE2 := Lib.hid (fun h => sameX_no2 (s := ⟨sa, sn, so⟩) (t := ⟨ta, tn, to⟩) h)
  have HE3 := Lib.hid (fun h => sameX_no3 (s := ⟨sa, sn, so⟩) (t := ⟨ta, tn, to⟩) h)
  have HE4 := Lib.hid (fun h1 h2 h3 => sameX_yes (s := ⟨sa, sn, so⟩) (t := ⟨ta, tn, to⟩) h1 h2 h3)
  have HB0 := Lib.hid (base_box (base_box (Below.refl _ w) (.cells #[va, vn, vo] 29)) (.cells #[ua, un, uo] 29))
  have HK0 := Lib.hid ((Kept3.new w va vn vo 29).box (.cells #[ua, un, uo] 29))
  have hk2 := Kept3.new (w.alloc (.cells #[va, vn, vo] 29)) ua un uo 29
  rw [World.size_alloc] at hk2
  have HL0 := Lib.hid hk2
  clear hk2 hacc hacc'
  obtain ⟨ab, bb, ob, cb, rfl, hmb, hbb, hcb⟩ := hn
  obtain ⟨ab', bb', ob', cb', rfl, hmb', hbb', hcb'⟩ := hn'
  obtain ⟨ad, bd, od, cd, rfl, hmd, hbd, hcd⟩ := ho
  obtain ⟨ad', bd', od', cd', rfl, hmd', hbd', hcd'⟩ := ho'
  unfold maxLen at hmb hmb' hmd hmd'
  obtain ⟨n, hnn⟩ : ∃ n, n = sn.length := ⟨_, rfl⟩
  obtain ⟨n', hnn'⟩ : ∃ n, n = tn.length := ⟨_, rfl⟩
  obtain ⟨q, hq⟩ : ∃ n, n = so.length := ⟨_, rfl⟩
  obtain ⟨q', hq'⟩ : ∃ n, n = to.length := ⟨_, rfl⟩
  rw [← hnn, ← hq] at HB0 HK0 HL0
  rw [← hnn', ← hq'] at HB0 HK0 HL0
  rw [← hnn] at hmb hbb hcb
  rw [← hnn'] at hmb' hbb' hcb'
  rw [← hq] at hmd hbd hcd
  rw [← hq'] at hmd' hbd' hcd'
  rw [← hnn, ← hnn', ← hq, ← hq']
  have HN := Lib.hid hnn
  have HN' := Lib.hid hnn'
  have HQ := Lib.hid hq
  have HQ' := Lib.hid hq'
  have HC := Lib.hid hcb
  have HC' := Lib.hid hcb'
  have HD := Lib.hid hcd
  have HD' := Lib.hid hcd'
  have HBB := Lib.hid hB
  clear hnn hnn' hq hq' hcb hcb' hcd hcd' hB
  obtain ⟨o1, ho1⟩ : ∃ o, o = Obj.cells #[va, .slice ab n cb, .slice ad q cd] 29 := ⟨_, rfl⟩
  obtain ⟨o2, ho2⟩ : ∃ o, o = Obj.cells #[ua, .slice ab' n' cb', .slice ad' q' cd'] 29 := ⟨_, rfl⟩
  cases g1 : same sa ta with
  | false =>
    have HS := Lib.hid (HE1.out g1)
    have HBL := Lib.hid (HBL.out _ HB0.out)
    rw [g1] at HBL
    clear HE1 HE2 HE3 HE4 g1 hbb hbb' hbd hbd' ho1 ho2
    go_enter Try.func12, Try.ntmps12
    go_wp2_with fail
    refine HBL.out.mono ?_
    rintro e w1 ⟨rfl, m1, rfl⟩
    go_wp2
    go_ret
    exact ⟨by rw [HS.out]; rfl, below_drewN HB0.out _⟩
  | true =>
    have HBL := Lib.hid (HBL.out _ HB0.out)
    rw [g1] at HBL
    have G1 := Lib.hid g1
    clear g1
    by_cases e1 : n = n'
    · by_cases e2 : q = q'
      · subst e1 e2
        have hg1 := ArrI.noGuard
        have hg2 := ArrS.noGuard
        clear HE1
        go_enter Try.func12, Try.ntmps12
        go_wp2_with fail
        refine HBL.out.mono ?_
        rintro e w1 ⟨rfl, m1, hw1⟩
        have HB1 := Lib.hid (show Below w.heap.size w w1 by rw [hw1]; exact below_drewN HB0.out _)
        have HK1 := Lib.hid (show Kept3 w1 w.heap.size va (.slice ab n cb) (.slice ad q cd) by rw [hw1]; exact HK0.out.step (below_drewN (Below.refl _ _) _))
        have HL1 := Lib.hid (show Kept3 w1 (w.heap.size + 1) ua (.slice ab' n cb') (.slice ad' q cd') by rw [hw1]; exact HL0.out.step (below_drewN (Below.refl _ _) _))
        clear hw1 HBL HB0 HK0 HL0 ho1 ho2
        obtain ⟨k0, k1, k2, -⟩ := HK1.out
        obtain ⟨l0, l1, l2, -⟩ := HL1.out
        go_wp2
        go_loopw [5] (fun i wr => ∃ k m : Nat, k ≤ n ∧ i = .int .i64 k ∧ sn.take k = tn.take k ∧ wr = w1.drewN m) (fun i _ => n - (intOf i).toNat)
        case atStart => exact ⟨0, 0, Nat.zero_le _, rfl, rfl, rfl⟩
        case round =>
          obtain ⟨k, m, hk, rfl, hg, rfl⟩ := hrel
          have HG := Lib.hid hg
          clear hg
          by_cases hlt : k < n
          · obtain ⟨rfl, hb1⟩ := hbb (by omega)
            obtain ⟨rfl, hb2⟩ := hbb' (by omega)
            obtain ⟨c0, c1⟩ := ((HC.out k hlt).1).below HB1.out (by have := HBB.out; omega)
            obtain ⟨d0, d1⟩ := ((HC'.out k hlt).1).below HB1.out (by have := HBB.out; omega)
            clear hbb hbb' hbd hbd'
            obtain ⟨x, hx⟩ : ∃ x, x = sn.getD k ArrI.noD := ⟨_, rfl⟩
            obtain ⟨y, hy⟩ : ∃ y, y = tn.getD k ArrI.noD := ⟨_, rfl⟩
            rw [← hx] at c0 c1
            rw [← hy] at d0 d1
            have HX := Lib.hid hx
            have HY := Lib.hid hy
            clear hx hy
            by_cases he : x = y
            all_goals
              have HE := Lib.hid he
              have hEq := fun w => ArrI.equalL x y w
              first
                | rw [ArrI.sameD_yes he] at hEq
                | rw [ArrI.sameD_no he] at hEq
              clear he
              obtain ⟨x1, x2⟩ := x
              obtain ⟨y1, y2⟩ := y
              simp only at c0 c1 d0 d1 hEq
              go_wp2
              go_quiet (fail)
              go_wp2
              first
                | (go_roundw
                   case rel => exact ⟨k + 1, _, by omega, by go_num, same_step sn tn ArrI.noD k (by rw [← HN.out]; exact hlt) (by rw [← HN'.out]; exact hlt) HG.out (by rw [← HX.out, ← HY.out]; exact HE.out), rfl⟩
                   case measure => simp [intOf]; omega)
                | (go_ret
                   exact ⟨by rw [HE2.out (same_no sn tn ArrI.noD k (by rw [← HX.out, ← HY.out]; exact HE.out))]; rfl, below_drewN (below_drewN HB1.out _) _⟩)
          · have HS1 := Lib.hid (same_end sn tn k (by rw [← HN.out]; omega) (by rw [← HN.out, ← HN'.out]) HG.out)
            clear hbb hbb' HG HC HC' HE2
            obtain ⟨w2, hw2⟩ : ∃ w2, w2 = w1.drewN m := ⟨_, rfl⟩
            have HB2 := Lib.hid (show Below w.heap.size w w2 by rw [hw2]; exact below_drewN HB1.out _)
            obtain ⟨k0, k1, k2, -⟩ := (show Kept3 w2 w.heap.size va (.slice ab n cb) (.slice ad q cd) by rw [hw2]; exact HK1.out.step (below_drewN (Below.refl _ _) _))
            obtain ⟨l0, l1, l2, -⟩ := (show Kept3 w2 (w.heap.size + 1) ua (.slice ab' n cb') (.slice ad' q cd') by rw [hw2]; exact HL1.out.step (below_drewN (Below.refl _ _) _))
            rw [← hw2]
            clear hw2 HB1 HK1 HL1
            go_wp2
            go_loopw [6] (fun i wr => ∃ k m : Nat, k ≤ q ∧ i = .int .i64 k ∧ so.take k = to.take k ∧ wr = w2.drewN m) (fun i _ => q - (intOf i).toNat)
            case atStart => exact ⟨0, 0, Nat.zero_le _, rfl, rfl, rfl⟩
            case round =>
              obtain ⟨p, m2, hp, rfl, hg, rfl⟩ := hrel
              have HG := Lib.hid hg
              clear hg
              by_cases hlt2 : p < q
              · obtain ⟨rfl, hb1⟩ := hbd (by omega)
                obtain ⟨rfl, hb2⟩ := hbd' (by omega)
                obtain ⟨c0, c1⟩ := ((HD.out p hlt2).1).below HB2.out (by have := HBB.out; omega)
                obtain ⟨d0, d1⟩ := ((HD'.out p hlt2).1).below HB2.out (by have := HBB.out; omega)
                clear hbd hbd'
                obtain ⟨x, hx⟩ : ∃ x, x = so.getD p ArrS.noD := ⟨_, rfl⟩
                obtain ⟨y, hy⟩ : ∃ y, y = to.getD p ArrS.noD := ⟨_, rfl⟩
                rw [← hx] at c0 c1
                rw [← hy] at d0 d1
                have HX := Lib.hid hx
                have HY := Lib.hid hy
                clear hx hy
                by_cases he : x = y
                all_goals
                  have HE := Lib.hid he
                  have hEq := fun w => ArrS.equalL x y w
                  first
                    | rw [ArrS.sameD_yes he] at hEq
                    | rw [ArrS.sameD_no he] at hEq
                  clear he
                  obtain ⟨x1, x2⟩ := x
                  obtain ⟨y1, y2⟩ := y
                  simp only at c0 c1 d0 d1 hEq
                  go_wp2
                  go_quiet (fail)
                  go_wp2
                  first
                    | (go_roundw
                       case rel => exact ⟨p + 1, _, by omega, by go_num, same_step so to ArrS.noD p (by rw [← HQ.out]; exact hlt2) (by rw [← HQ'.out]; exact hlt2) HG.out (by rw [← HX.out, ← HY.out]; exact HE.out), rfl⟩
                       case measure => simp [intOf]; omega)
                    | (go_ret
                       exact ⟨by rw [HE3.out (same_no so to ArrS.noD p (by rw [← HX.out, ← HY.out]; exact HE.out))]; rfl, below_drewN (below_drewN HB2.out _) _⟩)
              · have HS := Lib.hid (HE4.out G1.out HS1.out (same_end so to p (by rw [← HQ.out]; omega) (by rw [← HQ.out, ← HQ'.out]) HG.out))
                clear hbd hbd'
                go_wp2
                go_ret
                exact ⟨by rw [HS.out]; rfl, below_drewN HB2.out _⟩
      · have HS := Lib.hid (HE3.out (same_len so to (by rw [← HQ.out, ← HQ'.out]; exact e2)))
        have t2 : ((q : Int) != (q' : Int)) = true := by rw [bne_iff_ne]; omega
        subst e1
        clear HE1 HE2 HE3 HE4 hbb hbb' hbd hbd' e2 HN HN' HQ HQ' ho1 ho2
        go_enter Try.func12, Try.ntmps12
        go_wp2_with fail
        refine HBL.out.mono ?_
        rintro e w1 ⟨rfl, m1, rfl⟩
        go_wp2
        go_ret
        exact ⟨by rw [HS.out]; rfl, below_drewN HB0.out _⟩
    · have HS := Lib.hid (HE2.out (same_len sn tn (by rw [← HN.out, ← HN'.out]; exact e1)))
      have t2 : ((n : Int) != (n' : Int)) = true := by rw [bne_iff_ne]; omega
      clear HE1 HE2 HE3 HE4 hbb hbb' hbd hbd' e1 HN HN' HQ HQ' ho1 ho2
      go_enter Try.func12, Try.ntmps12
      go_wp2_with fail
      refine HBL.out.mono ?_
      rintro e w1 ⟨rfl, m1, rfl⟩
      go_wp2
      go_ret
      exact ⟨by rw [HS.out]; rfl, below_drewN HB0.out _⟩

set_option maxHeartbeats 2000000 in
theorem implSame (v u : Value) (s t : X) (w : World) (B : Nat) (h : ScAt w B v s) (g : ScAt w B u t) (hB : B ≤ w.heap.size) :
    Calls Try.prog 13 #[v, u] w fun e w' => e = .returned (.bool (sameX s t)) ∧ Below w.heap.size w w' := by
  obtain ⟨va, vn, vo, rfl, hacc, hn, ho⟩ := h
  obtain ⟨ua, un, uo, rfl, hacc', hn', ho'⟩ := g
  obtain ⟨ra, rn, ro⟩ := s
  obtain ⟨sa, sn, so⟩ := t
  simp only at hacc hacc' hn hn' ho ho' ⊢
  have HC := Lib.hid (fun W (h : Below w.heap.size w W) => libBools ra sa va ua W B (hacc.below h hB) (hacc'.below h hB))
  have HD := Lib.hid (fun W (h : Below w.heap.size w W) => ArrI.libDs rn sn vn un W B (hn.below h hB) (hn'.below h hB))
  have HE := Lib.hid (fun W (h : Below w.heap.size w W) => ArrS.libDs ro so vo uo W B (ho.below h hB) (ho'.below h hB))
  have HB0 := Lib.hid (base_box (base_box (Below.refl _ w) (.cells #[va, vn, vo] 29)) (.cells #[ua, un, uo] 29))
  clear hacc hacc' hn hn' ho ho'
  obtain ⟨p, hp⟩ : ∃ p, p = same ra sa := ⟨_, rfl⟩
  obtain ⟨q, hq⟩ : ∃ q, q = same rn sn := ⟨_, rfl⟩
  obtain ⟨z, hz⟩ : ∃ z, z = same ro so := ⟨_, rfl⟩
  have HS := Lib.hid (show sameX ⟨ra, rn, ro⟩ ⟨sa, sn, so⟩ = (p && q && z) by simp [sameX, hp, hq, hz])
  rw [← hp] at HC
  rw [← hq] at HD
  rw [← hz] at HE
  clear hp hq hz
  cases p with
  | false =>
    go_enter Try.func13, Try.ntmps13
    go_wp2_with fail
    refine (HC.out _ HB0.out).mono ?_
    rintro e w1 ⟨rfl, n1, rfl⟩
    go_wp2
    go_ret
    exact ⟨by rw [HS.out]; rfl, by exact below_drewN HB0.out _⟩
  | true =>
    cases q with
    | false =>
      go_enter Try.func13, Try.ntmps13
      go_wp2_with fail
      refine (HC.out _ HB0.out).mono ?_
      rintro e w1 ⟨rfl, n1, rfl⟩
      go_wp2_with fail
      refine (HD.out _ (below_drewN HB0.out _)).mono ?_
      rintro e w2 ⟨rfl, n2, rfl⟩
      go_wp2
      go_ret
      exact ⟨by rw [HS.out]; rfl, by exact below_drewN HB0.out _⟩
    | true =>
      cases z
      all_goals
        go_enter Try.func13, Try.ntmps13
        go_wp2_with fail
        refine (HC.out _ HB0.out).mono ?_
        rintro e w1 ⟨rfl, n1, rfl⟩
        go_wp2_with fail
        refine (HD.out _ (below_drewN HB0.out _)).mono ?_
        rintro e w2 ⟨rfl, n2, rfl⟩
        go_wp2_with fail
        refine (HE.out _ (below_drewN HB0.out _)).mono ?_
        rintro e w3 ⟨rfl, n3, rfl⟩
        go_wp2
        go_ret
        exact ⟨by rw [HS.out]; rfl, by exact below_drewN HB0.out _⟩
end Go.Proofs.Ytiklpejcfdhdkaa.ScrSame
