
/- Whether a presentation is valid, by the model and by the program.
   Conditions: the presentation is read as XPres's text says. -/
import Derived.Test.YtapiikkbeboidaaPresEq
import Derived.Test.YtapiikkbeboidaaValidImpl
namespace Go.Proofs.Ytapiikkbeboidaa.PresValid
set_option linter.unusedVariables false
set_option linter.unusedSimpArgs false
open Go.RowKit Mem Rel Columns Valid ValidAt ValidImpl Pres PresEq

def okP (p : P) : Bool := okB p.dom && decide (p.dom.tapes = 1) && decide ((p.rels.length : Int) ≤ 4) && p.rels.all okB

theorem all_next (rs : List R) (k : Nat) (h : k < rs.length) (g : (rs.take k).all okB = true) (e : okB (rs.getD k noR) = true) : (rs.take (k + 1)).all okB = true := by
  rw [take_succ_getD rs noR k h, List.all_append, g, List.all_cons, e]; rfl
theorem all_not (rs : List R) (k : Nat) (h : k < rs.length) (e : okB (rs.getD k noR) = false) : rs.all okB = false := by
  rw [List.all_eq_false]
  exact ⟨rs.getD k noR, by simp [List.getD, h], by rw [e]; exact Bool.false_ne_true⟩
theorem all_yes (rs : List R) (k : Nat) (h : rs.length ≤ k) (g : (rs.take k).all okB = true) : rs.all okB = true := by
  rwa [List.take_of_length_le h] at g

/-- A presentation behind a pointer. -/
structure PrPtr (w : World) (B bp : Nat) (p : P) (va vn vr : Value) : Prop where
  c0 : w.cell? ⟨bp, 0, none⟩ = some (.int .i64 p.dom.tapes)
  c1 : w.cell? ⟨bp, 1, none⟩ = some (.int .i64 p.dom.start)
  c2 : w.cell? ⟨bp, 2, none⟩ = some va
  c3 : w.cell? ⟨bp, 3, none⟩ = some vn
  c4 : w.cell? ⟨bp, 4, none⟩ = some vr
  acc : Bools w B va p.dom.accept
  nxt : IntRows w B vn p.dom.next
  rels : Rels w B vr p.rels

set_option maxHeartbeats 1000000 in
theorem specOkP (p : P) (va vn vr : Value) (bp : Nat) (w : World) (B : Nat) (h : PrPtr w B bp p va vn vr) :
    Calls Try.prog 14 #[.pointer (some ⟨bp, 0, none⟩)] w fun e w' => e = .returned (.bool (okP p)) ∧ ∃ m, w' = w.drewN m := by
  have HV := Lib.hid (specOk p.dom bp w B ⟨va, vn, h.c0, h.c1, h.c2, h.c3, h.acc, h.nxt⟩)
  obtain ⟨c0, -, -, -, c4, -, -, hrl⟩ := h
  obtain ⟨a, b, off, cap, rfl, hma, haa, hca⟩ := hrl
  obtain ⟨n, hn⟩ : ∃ n, n = p.rels.length := ⟨_, rfl⟩
  rw [← hn] at hma haa hca c4
  unfold maxLen at hma
  have HN := Lib.hid hn
  have HC := Lib.hid hca
  have HO := Lib.hid (show okP p = (okB p.dom && decide (p.dom.tapes = 1) && decide ((n : Int) ≤ 4) && p.rels.all okB) by unfold okP; rw [hn])
  obtain ⟨t, ht⟩ : ∃ t, t = p.dom.tapes := ⟨_, rfl⟩
  rw [← ht] at c0 HO
  obtain ⟨ok, hok⟩ : ∃ ok, ok = okB p.dom := ⟨_, rfl⟩
  rw [← hok] at HV HO
  clear hn hca ht hok
  cases ok with
  | false =>
    have HE := Lib.hid (show okP p = false by rw [HO.out]; rfl)
    clear HO haa
    go_enter Try.func14, Try.ntmps14
    go_wp2_with fail
    refine HV.out.mono ?_
    rintro e w1 ⟨rfl, m, rfl⟩
    go_wp2
    go_ret
    exact ⟨by rw [HE.out]; rfl, _, rfl⟩
  | true =>
    by_cases g1 : t = 1
    · by_cases g2 : 4 < (n : Int)
      · have d2 : decide (4 < (n : Int)) = true := by simpa using g2
        have d1 : (t != 1) = false := by simp [g1]
        have HE := Lib.hid (show okP p = false by rw [HO.out, decide_eq_false (show ¬ (n : Int) ≤ 4 by omega)]; simp)
        clear HO haa g1
        go_enter Try.func14, Try.ntmps14
        go_wp2_with fail
        refine HV.out.mono ?_
        rintro e w1 ⟨rfl, m, rfl⟩
        go_wp2
        go_ret
        exact ⟨by rw [HE.out]; rfl, _, rfl⟩
      · have d2 : decide (4 < (n : Int)) = false := by simpa using g2
        have d1 : (t != 1) = false := by simp [g1]
        have HE := Lib.hid (show okP p = p.rels.all okB by rw [HO.out, decide_eq_true (show (n : Int) ≤ 4 by omega), decide_eq_true g1]; rfl)
        clear HO g1
        go_enter Try.func14, Try.ntmps14
        go_wp2_with fail
        refine HV.out.mono ?_
        rintro e w1 ⟨rfl, m, rfl⟩
        go_wp2
        go_loopw [3] (fun i wr => ∃ k m : Nat, k ≤ n ∧ i = .int .i64 k ∧ (p.rels.take k).all okB = true ∧ wr = w.drewN m) (fun i _ => n - (intOf i).toNat)
        case atStart => exact ⟨0, _, Nat.zero_le _, rfl, rfl, rfl⟩
        case round =>
          obtain ⟨k, m', hk, rfl, hg, rfl⟩ := hrel
          have HG := Lib.hid hg
          clear hg
          by_cases hlt : k < n
          · obtain rfl := (haa (by omega)).1
            have h4 := HC.out k hlt
            have HNO := Lib.hid (fun h : okB (p.rels.getD k noR) = false => (show okP p = false by rw [HE.out]; exact all_not p.rels k (by rw [← HN.out]; exact hlt) h))
            have HYES := Lib.hid (fun h : okB (p.rels.getD k noR) = true => all_next p.rels k (by rw [← HN.out]; exact hlt) HG.out h)
            have HW := Lib.hid (specOkAt (p.rels.getD k noR) b (off + k * 4) (w.drewN m') B h4)
            obtain ⟨o, ho⟩ : ∃ o, o = okB (p.rels.getD k noR) := ⟨_, rfl⟩
            rw [← ho] at HNO HYES HW
            clear ho haa h4
            cases o with
            | false =>
              go_wp2_with fail
              refine HW.out.mono ?_
              rintro e w1 ⟨rfl, m2, rfl⟩
              go_wp2
              go_ret
              exact ⟨by rw [HNO.out (by trivial)]; rfl, _, rfl⟩
            | true =>
              go_wp2_with fail
              refine HW.out.mono ?_
              rintro e w1 ⟨rfl, m2, rfl⟩
              go_wp2
              go_roundw
              case rel => exact ⟨k + 1, _, by omega, by go_num, HYES.out (by trivial), rfl⟩
              case measure => simp [intOf]; omega
          · have HR := Lib.hid (show okP p = true by rw [HE.out]; exact all_yes p.rels k (by rw [← HN.out]; omega) HG.out)
            clear haa
            go_wp2
            go_ret
            exact ⟨by rw [HR.out]; rfl, _, rfl⟩
    · have d1 : (t != 1) = true := by rw [bne_iff_ne]; exact g1
      have HE := Lib.hid (show okP p = false by rw [HO.out, decide_eq_false g1]; simp)
      clear HO haa g1
      go_enter Try.func14, Try.ntmps14
      go_wp2_with fail
      refine HV.out.mono ?_
      rintro e w1 ⟨rfl, m, rfl⟩
      go_wp2
      go_ret
      exact ⟨by rw [HE.out]; rfl, _, rfl⟩

theorem specValid (v : Value) (p : P) (w : World) (B : Nat) (h : PrAt w B v p) (hB : B ≤ w.heap.size) :
    Calls Try.prog 6 #[v] w fun e w' => e = .returned (.bool (okP p)) ∧ Below w.heap.size w w' := by
  obtain ⟨va, vn, vr, rfl, hacc, hnx, hrl⟩ := h
  obtain ⟨c, hc⟩ : ∃ c : Array Value, c = #[.int .i64 p.dom.tapes, .int .i64 p.dom.start, va, vn, vr] := ⟨_, rfl⟩
  have hb : Below w.heap.size w (w.alloc (.cells c 34)) := base_box (Below.refl _ _) _
  have HP := Lib.hid (specOkP p va vn vr w.heap.size (w.alloc (.cells c 34)) B
    ⟨by rw [boxed, hc]; rfl, by rw [boxed, hc]; rfl, by rw [boxed, hc]; rfl, by rw [boxed, hc]; rfl, by rw [boxed, hc]; rfl, hacc.below hb hB, hnx.below hb hB, hrl.below hb hB⟩)
  have HB := Lib.hid hb
  clear hb hacc hnx hrl
  go_enter Try.func6, Try.ntmps6
  go_wp2_with fail
  rw [← hc]
  clear hc
  refine HP.out.mono ?_
  rintro e w' ⟨rfl, m, rfl⟩
  go_wp2
  go_ret
  exact ⟨rfl, below_drewN HB.out _⟩

set_option maxHeartbeats 2000000 in
theorem implValid (v : Value) (p : P) (w : World) (B : Nat) (h : PrAt w B v p) (hB : B ≤ w.heap.size) :
    Calls Try.prog 8 #[v] w fun e w' => e = .returned (.bool (okP p)) ∧ Below w.heap.size w w' := by
  obtain ⟨va, vn, vr, rfl, hacc, hnx, hrl⟩ := h
  have HV := Lib.hid (fun W (hb : Below w.heap.size w W) => ValidImpl.implValid (.agg #[.int .i64 p.dom.tapes, .int .i64 p.dom.start, va, vn]) p.dom W B ⟨va, vn, rfl, hacc.below hb hB, hnx.below hb hB⟩ (Nat.le_trans hB hb.size))
  obtain ⟨a, b, off, cap, rfl, hma, haa, hca⟩ := hrl
  obtain ⟨n, hn⟩ : ∃ n, n = p.rels.length := ⟨_, rfl⟩
  rw [← hn] at hma haa hca
  rw [← hn]
  unfold maxLen at hma
  have HN := Lib.hid hn
  have HC := Lib.hid hca
  have HBB := Lib.hid hB
  have HO := Lib.hid (show okP p = (okB p.dom && decide (p.dom.tapes = 1) && decide ((n : Int) ≤ 4) && p.rels.all okB) by unfold okP; rw [hn])
  obtain ⟨t, ht⟩ : ∃ t, t = p.dom.tapes := ⟨_, rfl⟩
  obtain ⟨s, hs⟩ : ∃ s, s = p.dom.start := ⟨_, rfl⟩
  obtain ⟨ok, hok⟩ : ∃ ok, ok = okB p.dom := ⟨_, rfl⟩
  rw [← hok] at HV HO
  rw [← ht, ← hs] at HV
  rw [← ht] at HO
  rw [← ht, ← hs]
  have HB0 := Lib.hid (base_box (Below.refl _ w) (.cells #[.int .i64 t, .int .i64 s, va, vn, .slice a n cap] 34))
  have HK := Lib.hid (show ∀ w1, Below (w.heap.size + 1) (w.alloc (.cells #[.int .i64 t, .int .i64 s, va, vn, .slice a n cap] 34)) w1 → w1.cell? ⟨w.heap.size, 0, none⟩ = some (.int .i64 t) ∧ w1.cell? ⟨w.heap.size, 4, none⟩ = some (.slice a n cap) ∧ w.heap.size < w1.heap.size from fun w1 hb =>
    ⟨(hb.cell (p := ⟨w.heap.size, 0, none⟩) (Nat.lt_succ_self _)).trans (boxed ..), (hb.cell (p := ⟨w.heap.size, 4, none⟩) (Nat.lt_succ_self _)).trans (boxed ..), by have := hb.size; simp at this; omega⟩)
  clear hn hca ht hs hok hacc hnx
  cases ok with
  | false =>
    have HE := Lib.hid (show okP p = false by rw [HO.out]; rfl)
    clear HO haa
    go_enter Try.func8, Try.ntmps8
    go_wp2_with fail
    refine (HV.out _ HB0.out).mono ?_
    rintro e w1 ⟨rfl, hb⟩
    have HB1 := Lib.hid (base_step HB0.out hb)
    clear hb
    go_wp2
    go_ret
    exact ⟨by rw [HE.out]; rfl, HB1.out⟩
  | true =>
    by_cases g1 : t = 1
    · by_cases g2 : 4 < (n : Int)
      · have d2 : decide (4 < (n : Int)) = true := by simpa using g2
        have d1 : (t != 1) = false := by simp [g1]
        have HE := Lib.hid (show okP p = false by rw [HO.out, decide_eq_false (show ¬ (n : Int) ≤ 4 by omega)]; simp)
        clear HO haa g1
        go_enter Try.func8, Try.ntmps8
        go_wp2_with fail
        refine (HV.out _ HB0.out).mono ?_
        rintro e w1 ⟨rfl, hb⟩
        have HB1 := Lib.hid (base_step HB0.out hb)
        obtain ⟨k0, k4, hlw⟩ := HK.out w1 (by have := hb; rwa [World.size_alloc] at this)
        clear hb
        go_wp2
        go_ret
        exact ⟨by rw [HE.out]; rfl, HB1.out⟩
      · have d2 : decide (4 < (n : Int)) = false := by simpa using g2
        have d1 : (t != 1) = false := by simp [g1]
        have HE := Lib.hid (show okP p = p.rels.all okB by rw [HO.out, decide_eq_true (show (n : Int) ≤ 4 by omega), decide_eq_true g1]; rfl)
        clear HO g1
        go_enter Try.func8, Try.ntmps8
        go_wp2_with fail
        refine (HV.out _ HB0.out).mono ?_
        rintro e w1 ⟨rfl, hb⟩
        have HB1 := Lib.hid (base_step HB0.out hb)
        obtain ⟨k0, k4, hlw⟩ := HK.out w1 (by have := hb; rwa [World.size_alloc] at this)
        clear hb
        go_wp2
        go_loopw [24] (fun i wr => ∃ k : Nat, k ≤ n ∧ i = .int .i64 k ∧ (p.rels.take k).all okB = true ∧ Below w.heap.size w wr) (fun i _ => n - (intOf i).toNat)
        case atStart => exact ⟨0, Nat.zero_le _, rfl, rfl, HB1.out⟩
        case round =>
          obtain ⟨k, hk, rfl, hg, hbel⟩ := hrel
          have HG := Lib.hid hg
          have HBL := Lib.hid hbel
          clear hg hbel k0 k4 hlw d1 d2
          by_cases hlt : k < n
          · obtain rfl := (haa (by omega)).1
            have hbB := (haa (by omega)).2
            have h4 := RelPtrAt.below (HC.out k hlt) HBL.out HBB.out (by have := HBB.out; omega)
            have HNO := Lib.hid (fun h : okB (p.rels.getD k noR) = false => (show okP p = false by rw [HE.out]; exact all_not p.rels k (by rw [← HN.out]; exact hlt) h))
            have HYES := Lib.hid (fun h : okB (p.rels.getD k noR) = true => all_next p.rels k (by rw [← HN.out]; exact hlt) HG.out h)
            obtain ⟨x, hx⟩ : ∃ x, x = p.rels.getD k noR := ⟨_, rfl⟩
            rw [← hx] at h4 HNO HYES
            clear hx haa
            obtain ⟨ua, un, c0, c1, c2, c3, hua, hun⟩ := h4
            obtain ⟨au, nu, cu, rfl⟩ : ∃ a n c, ua = .slice a n c := by obtain ⟨a, b, o, c, e, -⟩ := hua; exact ⟨_, _, _, e⟩
            obtain ⟨av, nv, cv, rfl⟩ : ∃ a n c, un = .slice a n c := by obtain ⟨U, ⟨a, b, o, c, e, -⟩, -⟩ := hun; exact ⟨_, _, _, e⟩
            have HW := Lib.hid (fun W (hb : Below wr.heap.size wr W) => ValidImpl.implValid (.agg #[.int .i64 x.tapes, .int .i64 x.start, .slice au nu cu, .slice av nv cv]) x W B ⟨_, _, rfl, hua.below hb (Nat.le_trans HBB.out HBL.out.size), hun.below hb (Nat.le_trans HBB.out HBL.out.size)⟩ (Nat.le_trans (Nat.le_trans HBB.out HBL.out.size) hb.size))
            obtain ⟨o, ho⟩ : ∃ o, o = okB x := ⟨_, rfl⟩
            rw [← ho] at HNO HYES HW
            have HB2 := Lib.hid (base_box HBL.out (.cells #[.int .i64 x.tapes, .int .i64 x.start, .slice au nu cu, .slice av nv cv] 31))
            clear ho hua hun
            cases o with
            | false =>
              go_wp2_with fail
              refine (HW.out _ (base_box (Below.refl _ _) _)).mono ?_
              rintro e w1 ⟨rfl, hb⟩
              have HB3 := Lib.hid (base_step HB2.out hb)
              clear hb
              go_wp2
              go_ret
              exact ⟨by rw [HNO.out (by trivial)]; rfl, HB3.out⟩
            | true =>
              go_wp2_with fail
              refine (HW.out _ (base_box (Below.refl _ _) _)).mono ?_
              rintro e w1 ⟨rfl, hb⟩
              have HB3 := Lib.hid (base_step HB2.out hb)
              clear hb
              go_wp2
              go_roundw
              case rel => exact ⟨k + 1, by omega, by go_num, HYES.out (by trivial), HB3.out⟩
              case measure => simp [intOf]; omega
          · have HR := Lib.hid (show okP p = true by rw [HE.out]; exact all_yes p.rels k (by rw [← HN.out]; omega) HG.out)
            clear haa
            go_wp2
            go_ret
            exact ⟨by rw [HR.out]; rfl, HBL.out⟩
    · have d1 : (t != 1) = true := by rw [bne_iff_ne]; exact g1
      have HE := Lib.hid (show okP p = false by rw [HO.out, decide_eq_false g1]; simp)
      clear HO haa g1
      go_enter Try.func8, Try.ntmps8
      go_wp2_with fail
      refine (HV.out _ HB0.out).mono ?_
      rintro e w1 ⟨rfl, hb⟩
      have HB1 := Lib.hid (base_step HB0.out hb)
      obtain ⟨k0, k4, hlw⟩ := HK.out w1 (by have := hb; rwa [World.size_alloc] at this)
      clear hb
      go_wp2
      go_ret
      exact ⟨by rw [HE.out]; rfl, HB1.out⟩
end Go.Proofs.Ytapiikkbeboidaa.PresValid
