
/- What the model's function that makes a relation of two tapes by moves hands back.
   Conditions: stated at each theorem. -/
import Derived.Test.YtpdplfgljjkjbaaSpecTidied
import Derived.Test.YtpdplfgljjkjbaaPush
namespace Go.Proofs.Ytpdplfgljjkjbaa.Known
set_option linter.unusedVariables false
set_option linter.unusedSimpArgs false
open Go.RowKit Mem Copy Rel Valid Heap Columns Bld TidyMath TidyAuto TidyRight SpecRight SpecTidied Push

/-- The state to which a column leads by moves, the last one that fits. -/
def mv (ms : List (List Int)) (s c dead : Int) : Int := ms.foldl (fun x m => if m.getD 0 0 = s ∧ m.getD 1 0 = c then m.getD 2 0 else x) dead
theorem mv_zero (ms : List (List Int)) (s c dead : Int) : mv (ms.take 0) s c dead = dead := rfl
theorem mv_succ (ms : List (List Int)) (s c dead : Int) {q : Nat} (hq : q < ms.length) : mv (ms.take (q + 1)) s c dead = if (ms.getD q []).getD 0 0 = s ∧ (ms.getD q []).getD 1 0 = c then (ms.getD q []).getD 2 0 else mv (ms.take q) s c dead := by
  unfold mv
  rw [take_succ_getD ms [] q hq, List.foldl_append]
  rfl
def kn (n : Nat) (ms : List (List Int)) : List (List Int) := (List.range (n + 1)).map fun s : Nat => (List.range 8).map fun c : Nat => mv ms s c n

set_option maxRecDepth 100000 in
set_option maxHeartbeats 8000000 in
theorem known (va vm : Value) (acc : List Bool) (ms : List (List Int)) (l : L) (hl : l.Ok) (hrel : relOf l = ⟨2, 0, acc ++ [false], kn acc.length ms⟩) (h3 : ∀ q, q < ms.length → (ms.getD q []).length = 3) (ha0 : 0 < acc.length) (ha5 : acc.length ≤ 1000) (hm5 : ms.length ≤ 1000)
    (w : World) (B : Nat) (hacc : Bools w B va acc) (hms : IntRows w B vm ms) (hB : B ≤ w.heap.size) :
    Calls Try.prog 47 #[va, vm] w fun e w' => ∃ va' vn', e = .returned (.agg #[.int .i64 2, .int .i64 0, va', vn']) ∧ Built w' w.heap.size va' vn' (tidyAcc l) (tidyNext l) ∧ Below w.heap.size w w' := by
  have HW := Lib.hid (fun W => wide2 W)
  have hlk : l.k = 2 := by have := congrArg R.tapes hrel; simp only [relOf] at this; omega
  have HTD := Lib.hid (fun bp W h hbp => by
    have := SpecTidied.tidied l hl bp W W.heap.size h (Nat.le_refl _) hbp (by
      have h1 := congrArg R.accept hrel
      simp only [relOf] at h1
      rw [h1, List.length_append]; simp; omega)
    rw [hlk] at this
    exact this)
  have HLR := Lib.hid hrel
  obtain ⟨V, hsl, hrows⟩ := hms
  have HVR := Lib.hid (fun W (hb : Kp w W) q (hq : q < ms.length) => (hrows q hq).below hb.base hB)
  have HVC := Lib.hid (fun W (hb : Kp w W) => hsl.below hb.base hB)
  obtain ⟨am, bm, om, cm, rfl, hmm, hma, -⟩ := hsl
  have HAC := Lib.hid (fun W (hb : Below w.heap.size w W) => hacc.below hb hB)
  obtain ⟨aa, ba, oa, ca, rfl, hna, haa, -⟩ := hacc
  obtain ⟨rfl, hab⟩ := haa ha0
  obtain ⟨n, hn⟩ : ∃ n, n = acc.length := ⟨_, rfl⟩
  obtain ⟨len, hlen⟩ : ∃ len, len = ms.length := ⟨_, rfl⟩
  rw [← hlen] at hmm hma hm5 HVR HVC h3
  rw [← hn] at ha0 ha5 hna
  rw [← hn, ← hlen]
  have HN := Lib.hid hn
  have HLEN := Lib.hid hlen
  have H3 := Lib.hid h3
  have HMA := Lib.hid hma
  clear hn hlen h3 hma hlk hrel hrows
  have HZ0 := Lib.hid (show w.heap.size + 1 ≤ ((w.alloc (.cells #[Value.int .i64 0, .int .i64 0, .slice none 0 0, .slice none 0 0] 27)).alloc (.cells #[] 4)).heap.size by simp)
  have HL0 := Lib.hid (show Lst ((w.alloc (.cells #[Value.int .i64 0, .int .i64 0, .slice none 0 0, .slice none 0 0] 27)).alloc (.cells #[] 4)) (w.heap.size + 1) 4 (.slice (some ⟨w.heap.size + 1, 0, none⟩) 0 0) [] from by
    have := Lst.empty (w.alloc (.cells #[Value.int .i64 0, .int .i64 0, .slice none 0 0, .slice none 0 0] 27)) (w.heap.size + 1) 4 (by simp)
    rwa [size_alloc'] at this)
  have HK0 := Lib.hid (show Kp w ((w.alloc (.cells #[Value.int .i64 0, .int .i64 0, .slice none 0 0, .slice none 0 0] 27)).alloc (.cells #[] 4)) from (Below.refl _ _).alloc (by simp) _)
  have HNEW := Lib.hid (show ∀ j u, (acc.map Value.bool)[j]? = some u → ((w.alloc (.cells #[Value.int .i64 0, .int .i64 0, .slice none 0 0, .slice none 0 0] 27)).alloc (.cells #[] 4)).cell? ((⟨ba, oa, none⟩ : Addr).add j) = some u from fun j u hj => by
    obtain ⟨a', b', o', c', e, -, he, hc⟩ := HAC.out _ (Kp.base HK0.out)
    obtain ⟨e1, -⟩ := he (by rw [← HN.out]; exact ha0)
    injection e with e _ _
    rw [e1] at e
    injection e with e
    injection e with e2 e3
    subst e2 e3
    have hjl : j < acc.length := by
      apply Classical.byContradiction; intro h
      rw [List.getElem?_eq_none (by rw [List.length_map]; omega)] at hj; cases hj
    rw [List.getElem?_map, List.getElem?_eq_getElem hjl] at hj
    have hj' := Option.some.inj hj
    have this : _ = some (Value.bool (acc.getD j false)) := hc j hjl
    rw [show acc.getD j false = acc[j] from by simp [List.getD, hjl]] at this
    rw [← hj']
    have ea : (⟨ba, oa, none⟩ : Addr).add j = ⟨ba, oa + j, none⟩ := by simp [Addr.add]
    rw [ea]
    exact this)
  go_enter Try.func47, Try.ntmps47
  go_wp2_with (first
    | (at_builtin; refine wpList_pushs rfl _ _ 22 rfl 4 (.bool false) 1 Try.underlying22 info4 (by decide) (by decide) (w.heap.size + 1) (.slice (some ⟨w.heap.size + 1, 0, none⟩) 0 0) [] HL0.out HZ0.out (acc.map Value.bool) (fun u hu => by obtain ⟨b, -, rfl⟩ := List.mem_map.1 hu; rfl) (by have := HN.out; simp; omega) rfl ⟨ba, oa, none⟩ n ca rfl (by rw [List.length_map]; exact HN.out.symm) HNEW.out ?_; intro v5 w5 hl5 hg5; rw [List.nil_append] at hl5; obtain ⟨a5, n5, cp5, rfl, HN5⟩ := hl5.shape'; have HL5 := Lib.hid hl5; have HK5 := Lib.hid (Below.grown HK0.out hg5 HZ0.out (fun q hq => HL0.out.ge hq)); have HS5 := Lib.hid (Kp.size HK5.out); clear hl5 hg5)
    | (at_builtin; refine wpList_push rfl _ _ 22 rfl 4 (.bool false) 1 Try.underlying22 info4 (by decide) (by decide) (w.heap.size + 1) (.slice a5 n5 cp5) _ (.bool false) HL5.out HS5.out rfl (by have := HN.out; rw [List.length_map]; omega) rfl _ rfl rfl ?_; intro v6 w6 hp6; obtain ⟨a6, n6, cp6, rfl, HN6⟩ := hp6.lst.shape'; have HL6 := Lib.hid hp6.lst; have HK6 := Lib.hid (Below.grown HK5.out hp6.grow HS5.out (fun q hq => HL5.out.ge hq)); have HS6 := Lib.hid (Kp.size HK6.out); clear hp6))
  obtain ⟨Z, hZ⟩ : ∃ Z, Z = w6.heap.size := ⟨_, rfl⟩
  have HBLD := Lib.hid (show Bld (w6.alloc (.cells #[Value.int .i64 2, .int .i64 0, .slice a6 n6 cp6, .slice none 0 0] 27)) (w.heap.size + 1) Z 2 0 (.slice a6 n6 cp6) (.slice none 0 0) [] [] (acc.map Value.bool ++ [Value.bool false]) from
    ⟨Own.nil _ _ _, HL6.out.alloc _, Lst.nil _ _ _, by rw [hZ]; exact heap_alloc_new _ _, by rw [hZ]; exact HS6.out⟩)
  have HKP := Lib.hid (show Kp w (w6.alloc (.cells #[Value.int .i64 2, .int .i64 0, .slice a6 n6 cp6, .slice none 0 0] 27)) from Below.alloc HK6.out HS6.out _)
  rw [← hZ]
  clear hZ HL0 HK0 HZ0 HNEW HAC
  go_loopw [7, 8, 9, 10, 11] (fun s7 _ _ _ _ wr => ∃ (i : Nat) (vn : Value) (items : List (Value × List Value)), i ≤ n + 1 ∧ s7 = .int .i64 i ∧ Bld wr (w.heap.size + 1) Z 2 0 (.slice a6 n6 cp6) vn [] items (acc.map Value.bool ++ [Value.bool false]) ∧
    items.map Prod.snd = (List.range i).map (fun s : Nat => tv 8 fun c => mv ms s c n) ∧ Kp w wr) (fun s7 _ _ _ _ _ => n + 1 - (intOf s7).toNat)
  case atStart => exact ⟨0, _, [], Nat.zero_le _, rfl, HBLD.out, rfl, HKP.out⟩
  case round =>
    obtain ⟨i, vn, items, hi, rfl, hbld, hit, hbel⟩ := hrel
    have HD := Lib.hid hbld
    have HI := Lib.hid hit
    have HB := Lib.hid hbel
    clear hbld hit hbel HBLD HKP HK5 HK6 HL5 HL6 HS5 HS6
    by_cases hlt : i ≤ n
    · obtain ⟨g, hg⟩ : ∃ g, g = wr.heap.size := ⟨_, rfl⟩
      have HD1 := Lib.hid (show Bld (wr.alloc (.cells #[] 2)) (w.heap.size + 1) Z 2 0 (.slice a6 n6 cp6) vn [(.slice (some ⟨g, 0, none⟩) 0 0, tv 0 fun q => mv ms i q n)] items (acc.map Value.bool ++ [Value.bool false]) from by
        rw [hg]
        exact HD.out.addInt ((Below.refl _ _).alloc (Nat.le_refl _) _) (Lst.empty wr (w.heap.size + 1) 2 (Kp.size HB.out)) (fun q hq => by cases hq; exact Nat.le_refl _))
      have HB1 := Lib.hid (show Kp w (wr.alloc (.cells #[] 2)) from Below.alloc HB.out (Kp.size HB.out) _)
      go_wp2_with fail
      rw [← hg]
      clear hg
      go_loopw [8, 9, 10, 11] (fun s8 s9 _ _ wr' => ∃ (c : Nat) (a8 : Option Addr) (cp8 : Nat), c ≤ 8 ∧ s9 = .int .i64 c ∧ s8 = .slice a8 c cp8 ∧ Bld wr' (w.heap.size + 1) Z 2 0 (.slice a6 n6 cp6) vn [(.slice a8 c cp8, tv c fun q => mv ms i q n)] items (acc.map Value.bool ++ [Value.bool false]) ∧ Kp w wr') (fun _ s9 _ _ _ => 8 - (intOf s9).toNat)
      case atStart => exact ⟨0, _, _, Nat.zero_le _, rfl, rfl, HD1.out, HB1.out⟩
      case round =>
        obtain ⟨c, a8, cp8, hc, rfl, rfl, hbld, hbel⟩ := hrel
        have HD2 := Lib.hid hbld
        have HB2 := Lib.hid hbel
        clear hbld hbel HD1 HB1
        by_cases hlc : c < 8
        · go_wp2_with (go_at_call 56; refine (HW.out _).mono ?_; rintro e w' ⟨rfl, rfl⟩)
          go_loop [10, 11] (fun s10 s11 => ∃ q : Nat, q ≤ len ∧ s11 = .int .i64 q ∧ s10 = .int .i64 (mv (ms.take q) i c n)) (fun _ s11 => len - (intOf s11).toNat)
          case atStart => exact ⟨0, Nat.zero_le _, rfl, rfl⟩
          case round =>
            obtain ⟨q, hq, rfl, rfl⟩ := hrel
            by_cases hlq : q < len
            · obtain ⟨rfl, -⟩ := HMA.out (by omega)
              have HMV := Lib.hid (mv_succ ms i c n (q := q) (by rw [← HLEN.out]; exact hlq))
              obtain ⟨x, hx⟩ : ∃ x, x = mv (ms.take q) i c n := ⟨_, rfl⟩
              rw [← hx] at HMV
              rw [← hx]
              have hvq : wr.cell? ⟨bm, om + q, none⟩ = some (V q) := by
                obtain ⟨a', b', o', c', e, -, he, hcc⟩ := HVC.out _ HB2.out
                obtain ⟨e1, -⟩ := he (by omega)
                injection e with e _ _
                rw [e1] at e
                injection e with e
                injection e with e2 e3
                subst e2 e3
                exact hcc q hlq
              have hr := HVR.out _ HB2.out q hlq
              have hr3 := H3.out q hlq
              obtain ⟨ar, br, or, cr, hvr, -, har, hcr⟩ := hr
              rw [hr3] at hvr har hcr
              obtain ⟨rfl, -⟩ := har (by omega)
              rw [hvr] at hvq
              have k0 : wr.cell? ⟨br, or + 0, none⟩ = some (.int .i64 ((ms.getD q []).getD 0 0)) := hcr 0 (by omega)
              have k1 : wr.cell? ⟨br, or + 1, none⟩ = some (.int .i64 ((ms.getD q []).getD 1 0)) := hcr 1 (by omega)
              have k2 : wr.cell? ⟨br, or + 2, none⟩ = some (.int .i64 ((ms.getD q []).getD 2 0)) := hcr 2 (by omega)
              obtain ⟨m0, hm0⟩ : ∃ m0, m0 = (ms.getD q []).getD 0 0 := ⟨_, rfl⟩
              obtain ⟨m1, hm1⟩ : ∃ m1, m1 = (ms.getD q []).getD 1 0 := ⟨_, rfl⟩
              obtain ⟨m2, hm2⟩ : ∃ m2, m2 = (ms.getD q []).getD 2 0 := ⟨_, rfl⟩
              rw [← hm0] at k0 HMV
              rw [← hm1] at k1 HMV
              rw [← hm2] at k2 HMV
              simp only [Nat.add_zero] at k0
              clear hx hvr har hcr hm0 hm1 hm2 hr3
              by_cases e0 : m0 = (i : Int)
              · by_cases e1 : m1 = (c : Int)
                · subst e0 e1
                  have HX := Lib.hid (HMV.out.trans (if_pos ⟨rfl, rfl⟩))
                  go_wp2_with fail
                  go_round
                  case rel => exact ⟨q + 1, hlq, by go_num, by rw [HX.out]⟩
                  case measure => simp [intOf]; omega
                · subst e0
                  have HX := Lib.hid (HMV.out.trans (if_neg (fun h => e1 h.2)))
                  have b1 : (m1 == (c : Int)) = false := by simpa using e1
                  go_wp2_with fail
                  go_round
                  case rel => exact ⟨q + 1, hlq, by go_num, by rw [HX.out]⟩
                  case measure => simp [intOf]; omega
              · have HX := Lib.hid (HMV.out.trans (if_neg (fun h => e0 h.1)))
                have b0 : (m0 == (i : Int)) = false := by simpa using e0
                go_wp2_with fail
                go_round
                case rel => exact ⟨q + 1, hlq, by go_num, by rw [HX.out]⟩
                case measure => simp [intOf]; omega
            · obtain rfl : q = len := by omega
              obtain ⟨x, hx⟩ : ∃ x, x = mv (ms.take q) i c n := ⟨_, rfl⟩
              have HX := Lib.hid (show x = mv ms i c n by rw [hx, List.take_of_length_le (by rw [← HLEN.out]; exact Nat.le_refl _)])
              rw [← hx]
              clear hx
              have HSZ2 := Lib.hid (Kp.size HB2.out)
              go_wp2_with (at_builtin; refine wpList_push rfl _ _ 49 rfl 2 (.int .i64 0) 8 Try.underlying49 info2 (by decide) (by decide) (w.heap.size + 1) (.slice a8 c cp8) _ (.int .i64 x) (Own.get [] _ HD2.out.own) HSZ2.out rfl (by rw [tv_length]; omega) rfl _ rfl rfl ?_; intro v5 w5 hp5; obtain ⟨a5, n5, cp5, rfl, HN5⟩ := hp5.lst.shape'; have HE5 := Lib.hid (HD2.out.pushInt [] [] hp5); have HB5 := Lib.hid (Below.grown HB2.out hp5.grow HSZ2.out (fun q hq => (Own.get [] _ HD2.out.own).ge hq)); clear hp5)
              go_roundw
              case rel =>
                have h5 : n5 = c + 1 := by rw [HN5.out, List.length_append, tv_length]; rfl
                subst h5
                have h1 := HE5.out
                rw [HX.out, tv_snoc c (fun q => mv ms i q n)] at h1
                exact ⟨c + 1, _, _, hlc, by go_num, rfl, h1, HB5.out⟩
              case measure => simp [intOf]; omega
        · obtain rfl : c = 8 := by omega
          have HIL := Lib.hid (show (items.map Prod.fst).length ≤ 100000000 from by
            have := congrArg List.length HI.out
            rw [List.length_map, List.length_map, List.length_range] at this
            rw [List.length_map]; omega)
          have HS4 := Lib.hid (Kp.size HB2.out)
          have q3 := HD2.out.c3
          have hl4 := HD2.out.lt
          have z3 := cells_free HD2.out.at_ 3
          obtain ⟨a0, n0, c0, rfl, -⟩ := HD2.out.nxt.shape'
          go_wp2_with (first
            | (go_at_call 56; refine (HW.out _).mono ?_; rintro e w' ⟨rfl, rfl⟩)
            | (at_builtin; refine wpList_push rfl _ _ 23 rfl 49 (.slice none 0 0) 24 Try.underlying23 info54 (by decide) (by decide) (w.heap.size + 1) (.slice a0 n0 c0) _ (.slice a8 8 cp8) HD2.out.nxt HS4.out rfl HIL.out rfl _ rfl rfl ?_; intro v5 w5 hp5; obtain ⟨a5, n5, cp5, rfl, HN5⟩ := hp5.lst.shape'; have o5 := HD2.out.obNext hp5; have q5 := (cells_get o5 3); have z5 := cells_free o5 3; have hl5 := (lt_of_block o5); have HE5 := Lib.hid (HD2.out.pushNext [] [] hp5); have HB5 := Lib.hid ((Below.grown HB2.out hp5.grow HS4.out (fun q hq => HD2.out.nxt.ge hq)).setCell (p := ⟨Z, 3, none⟩) HD2.out.obB (.slice a5 n5 cp5)); simp at q5; clear hp5 o5))
          go_roundw
          case rel =>
            have h1 := HE5.out
            rw [List.nil_append] at h1
            refine ⟨i + 1, _, _, by omega, by go_num, h1, ?_, HB5.out⟩
            rw [List.map_append, HI.out, List.range_succ, List.map_append]; rfl
          case measure => simp [intOf]; omega
    · obtain rfl : i = n + 1 := by omega
      have HBU := Lib.hid (show Built wr (w.heap.size + 1) (.slice a6 n6 cp6) vn (acc ++ [false]) (kn n ms) from Built.of_bld HD.out (by rw [List.map_append]; rfl) (by
        rw [HI.out]
        unfold kn
        rw [List.map_map]
        refine List.map_congr_left fun s _ => ?_
        show tv 8 _ = List.map _ (List.map _ _)
        unfold tv; rw [List.map_map]; rfl))
      have HRP := Lib.hid (show RelPtr wr wr.heap.size Z (relOf l) from by
        obtain ⟨va', vn', e, h1, h2⟩ := HBU.out.reads wr.heap.size (Nat.le_refl _) 2 0
        rw [HLR.out, ← HN.out]
        refine ⟨.slice a6 n6 cp6, vn, ?_, ?_, ?_, ?_, ?_, ?_⟩
        · rw [cells_get HD.out.at_]; rfl
        · rw [cells_get HD.out.at_]; rfl
        · rw [cells_get HD.out.at_]; rfl
        · rw [cells_get HD.out.at_]; rfl
        · simp at e; rw [e.1]; exact h1
        · simp at e; rw [e.2]; exact h2)
      have HT := Lib.hid (HTD.out Z wr HRP.out HD.out.lt)
      have HLB := Lib.hid (Kp.size HB.out)
      go_wp2_with fail
      refine HT.out.mono ?_
      rintro e w7 ⟨ra, rn, rfl, hbu, hb⟩
      have HK7 := Lib.hid (show Kp w w7 from Below.trans HB.out (hb.mono HLB.out))
      have HB7 := Lib.hid (show Built w7 (w.heap.size + 1) ra rn (tidyAcc l) (tidyNext l) from hbu.mono HLB.out)
      have hres := Kp.res HK7.out
      obtain ⟨a7, n7, c7, rfl, -⟩ := hbu.acc.shape'
      obtain ⟨items7, -, hnx7, -⟩ := hbu.rows
      obtain ⟨b7, m7, d7, rfl, -⟩ := hnx7.shape'
      have r0 := cells_get hres 0
      have r1 := cells_get hres 1
      have r2 := cells_get hres 2
      have r3 := cells_get hres 3
      have f0 := cells_free hres 0
      have f1 := cells_free hres 1
      have f2 := cells_free hres 2
      have f3 := cells_free hres 3
      have hlS := lt_of_block hres
      have p0 := cells_set hres 0 (.int .i64 2)
      have p1 := cells_set p0 1 (.int .i64 0)
      have p2 := cells_set p1 2 (.slice a7 n7 c7)
      have p3 := cells_set p2 3 (.slice b7 m7 d7)
      simp at r0 r1 r2 r3 p3
      have g0 := cells_get p3 0
      have g1 := cells_get p3 1
      have g2 := cells_get p3 2
      have g3 := cells_get p3 3
      simp at g0 g1 g2 g3
      have HG := Lib.hid (And.intro g0 (And.intro g1 (And.intro g2 g3)))
      clear p0 p1 p2 p3 g0 g1 g2 g3 hres hbu hb hnx7
      go_wp2_with fail
      obtain ⟨g0, g1, g2, g3⟩ := HG.out
      refine bodyPost_ret (v := .agg #[.int .i64 2, .int .i64 0, .slice a7 n7 c7, .slice b7 m7 d7]) (by simp [results, Try.results47, go_sem, g0, g1, g2, g3]) rfl ⟨.slice a7 n7 c7, .slice b7 m7 d7, rfl, ?_, ?_⟩
      · exact ((((HB7.out.setLow (a := ⟨w.heap.size, 0, none⟩) (Nat.lt_succ_self _) _).setLow (a := ⟨w.heap.size, 1, none⟩) (Nat.lt_succ_self _) _).setLow (a := ⟨w.heap.size, 2, none⟩) (Nat.lt_succ_self _) _).setLow (a := ⟨w.heap.size, 3, none⟩) (Nat.lt_succ_self _) _).mono (Nat.le_succ _)
      · have HBW := Kp.base HK7.out
        exact (((HBW.setCell (p := ⟨w.heap.size, 0, none⟩) (Nat.le_refl _) _).setCell (p := ⟨w.heap.size, 1, none⟩) (Nat.le_refl _) _).setCell (p := ⟨w.heap.size, 2, none⟩) (Nat.le_refl _) _).setCell (p := ⟨w.heap.size, 3, none⟩) (Nat.le_refl _) _
end Go.Proofs.Ytpdplfgljjkjbaa.Known
