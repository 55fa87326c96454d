
/- Edges of transducers in memory: how lists of them are measured.
   Conditions: stated at each theorem. -/
import Derived.Test.YtjoiaenkmmmmpaaRel
import Derived.Deep.RegionWith
namespace Go.Proofs.Ytjoiaenkmmmmpaa.Edg
set_option linter.unusedVariables false
set_option linter.unusedSimpArgs false
open Go.RowKit Mem Copy Rel

/-- An edge as data. -/
structure E where
  src : Int
  dst : Int
  inn : ByteArray
  out : ByteArray
deriving DecidableEq

def noE : E := ⟨0, 0, ⟨#[]⟩, ⟨#[]⟩⟩
def edgeV (e : E) : Value := .agg #[.int .i64 e.src, .int .i64 e.dst, .string e.inn, .string e.out]
def E.Fits (e : E) : Prop := e.inn.size ≤ maxLen ∧ e.out.size ≤ maxLen

/-- The four cells from an address on hold the edge. -/
structure At4 (w : World) (b o : Nat) (e : E) : Prop where
  c0 : w.cell? ⟨b, o, none⟩ = some (.int .i64 e.src)
  c1 : w.cell? ⟨b, o + 1, none⟩ = some (.int .i64 e.dst)
  c2 : w.cell? ⟨b, o + 2, none⟩ = some (.string e.inn)
  c3 : w.cell? ⟨b, o + 3, none⟩ = some (.string e.out)

theorem At4.below {w w' : World} {b o B : Nat} {e : E} (h : At4 w b o e) (hb : Below B w w') (hB : b < B) : At4 w' b o e :=
  ⟨(hb.cell (p := ⟨b, o, none⟩) hB).trans h.c0, (hb.cell (p := ⟨b, o + 1, none⟩) hB).trans h.c1, (hb.cell (p := ⟨b, o + 2, none⟩) hB).trans h.c2, (hb.cell (p := ⟨b, o + 3, none⟩) hB).trans h.c3⟩

/-- The slice value v has the edges es as elements; its row lies below block B. -/
def Edges (w : World) (B : Nat) (v : Value) (es : List E) : Prop :=
  ∃ a b off cap, v = .slice a es.length cap ∧ es.length ≤ maxLen ∧ (0 < es.length → a = some ⟨b, off, none⟩ ∧ b < B) ∧ ∀ i, i < es.length → At4 w b (off + i * 4) (es.getD i noE) ∧ (es.getD i noE).Fits

theorem Edges.below {w w' : World} {B B' : Nat} {v : Value} {es : List E} (h : Edges w B v es) (hb : Below B' w w') (hB : B ≤ B') : Edges w' B v es := by
  obtain ⟨a, b, off, cap, hv, hm, ha, hc⟩ := h
  exact ⟨a, b, off, cap, hv, hm, ha, fun i hi => ⟨(hc i hi).1.below hb (by have := (ha (by omega)).2; omega), (hc i hi).2⟩⟩
theorem Edges.mono {w : World} {B B' : Nat} {v : Value} {es : List E} (h : Edges w B v es) (hB : B ≤ B') : Edges w B' v es := by
  obtain ⟨a, b, off, cap, hv, hm, ha, hc⟩ := h
  exact ⟨a, b, off, cap, hv, hm, fun h => ⟨(ha h).1, Nat.lt_of_lt_of_le (ha h).2 hB⟩, hc⟩

/-- What is left of a bound behind edges; -1 if it is not enough. -/
def szE (left : Int) (e : E) : Int := if left < (e.inn.size : Int) then -1 else if left - e.inn.size < (e.out.size : Int) then -1 else left - e.inn.size - e.out.size
def szEsTo : Int → List E → Int
  | left, [] => left
  | left, e :: r => if szE left e < 0 then -1 else szEsTo (szE left e) r
def szEs (left : Int) (es : List E) : Int := if left < (es.length : Int) then -1 else szEsTo (left - es.length) es

theorem szE_le {left : Int} {e : E} (h : 0 ≤ szE left e) : szE left e ≤ left ∧ (e.inn.size : Int) ≤ left ∧ (e.out.size : Int) ≤ left := by
  unfold szE at h ⊢
  by_cases h1 : left < (e.inn.size : Int)
  · rw [if_pos h1] at h; omega
  · rw [if_neg h1] at h ⊢
    by_cases h2 : left - e.inn.size < (e.out.size : Int)
    · rw [if_pos h2] at h; omega
    · rw [if_neg h2] at h ⊢; omega
theorem szE_neg {left : Int} {e : E} (h0 : 0 ≤ left) (h : szE left e < 0) : szE left e = -1 := by
  unfold szE at h ⊢
  by_cases h1 : left < (e.inn.size : Int)
  · rw [if_pos h1]
  · rw [if_neg h1] at h ⊢
    by_cases h2 : left - e.inn.size < (e.out.size : Int)
    · rw [if_pos h2]
    · rw [if_neg h2] at h ⊢; omega
theorem szEsTo_neg (es : List E) : ∀ left : Int, 0 ≤ left → szEsTo left es < 0 → szEsTo left es = -1 := by
  induction es with
  | nil => intro l h0 h; simp [szEsTo] at h; omega
  | cons e r ih =>
    intro l h0 h
    unfold szEsTo at h ⊢
    by_cases h1 : szE l e < 0
    · rw [if_pos h1]
    · rw [if_neg h1] at h ⊢
      exact ih _ (by omega) h

set_option maxHeartbeats 400000 in
theorem szEdge (e : E) (left : Int) (w : World) (h0 : 0 ≤ left) (h1 : left ≤ 1048576) (hf : e.Fits) :
    Calls Try.prog 73 #[edgeV e, .int .i64 left] w fun x w' => x = .returned (.int .i64 (szE left e)) ∧ Below w.heap.size w w' := by
  obtain ⟨es, ed, ei, eo⟩ := e
  obtain ⟨f1, f2⟩ := hf
  unfold maxLen at f1 f2
  unfold edgeV
  simp only at f1 f2 ⊢
  by_cases g1 : left < (ei.size : Int)
  · have HE := Lib.hid (show szE left ⟨es, ed, ei, eo⟩ = -1 by unfold szE; rw [if_pos g1])
    have t1 : left - (ei.size : Int) < 0 := by omega
    go_enter Try.func73, Try.ntmps73
    go_wp2
    go_ret
    exact ⟨by rw [HE.out]; rfl, (Below.refl _ _).alloc (Nat.le_refl _) _⟩
  · have t1 : ¬ left - (ei.size : Int) < 0 := by omega
    by_cases g2 : left - (ei.size : Int) < (eo.size : Int)
    · have HE := Lib.hid (show szE left ⟨es, ed, ei, eo⟩ = -1 by unfold szE; rw [if_neg g1, if_pos g2])
      have t2 : left - (ei.size : Int) - (eo.size : Int) < 0 := by omega
      go_enter Try.func73, Try.ntmps73
      go_wp2
      go_ret
      exact ⟨by rw [HE.out]; rfl, (Below.refl _ _).alloc (Nat.le_refl _) _⟩
    · have HE := Lib.hid (show szE left ⟨es, ed, ei, eo⟩ = left - ei.size - eo.size by unfold szE; rw [if_neg g1, if_neg g2])
      have t2 : ¬ left - (ei.size : Int) - (eo.size : Int) < 0 := by omega
      go_enter Try.func73, Try.ntmps73
      go_wp2
      go_ret
      exact ⟨by rw [HE.out]; rfl, (Below.refl _ _).alloc (Nat.le_refl _) _⟩

set_option maxHeartbeats 1000000 in
theorem szEdges (es : List E) (va : Value) (left : Int) (w : World) (B : Nat) (ha : Edges w B va es) (hB : B ≤ w.heap.size) (h0 : 0 ≤ left) (h1 : left ≤ 1048576) :
    Calls Try.prog 36 #[va, .int .i64 left] w fun e w' => e = .returned (.int .i64 (szEs left es)) ∧ Below w.heap.size w w' := by
  obtain ⟨a, b, off, cap, rfl, hma, haa, hca⟩ := ha
  obtain ⟨n, hn⟩ : ∃ n, n = es.length := ⟨_, rfl⟩
  rw [← hn] at hma hca haa
  unfold maxLen at hma
  by_cases hbig : left < (n : Int)
  · have HE := Lib.hid (show szEs left es = -1 by unfold szEs; rw [if_pos (by omega)])
    have ht : left - (n : Int) < 0 := by omega
    rw [← hn]
    clear hn hca haa
    go_enter Try.func36, Try.ntmps36
    go_wp2
    go_ret
    exact ⟨by rw [HE.out]; rfl, Below.refl _ _⟩
  · have HE := Lib.hid (show szEs left es = szEsTo (left - n) es by unfold szEs; rw [if_neg (by omega), hn])
    have ht : ¬ left - (n : Int) < 0 := by omega
    rw [← hn]
    have HN := Lib.hid hn
    have HC := Lib.hid hca
    have HB := Lib.hid hB
    clear hn hca
    go_enter Try.func36, Try.ntmps36
    go_wp2
    go_loopw [1, 5] (fun l i wr => ∃ (k : Nat) (L : Int), k ≤ n ∧ i = .int .i64 k ∧ l = .int .i64 L ∧ 0 ≤ L ∧ L ≤ 1048576 ∧ szEsTo (left - n) es = szEsTo L (es.drop k) ∧ Below w.heap.size w wr) (fun _ i _ => n - (intOf i).toNat)
    case atStart => exact ⟨0, left - n, Nat.zero_le _, rfl, rfl, by omega, by omega, rfl, Below.refl _ _⟩
    case round =>
      obtain ⟨k, L, hk, rfl, rfl, hL0, hL1, hg, hbel⟩ := hrel
      have HG := Lib.hid hg
      have HBL := Lib.hid hbel
      clear hg ht hbel
      by_cases hlt : k < n
      · obtain rfl := (haa (by omega)).1
        have hbB := (haa (by omega)).2
        have h4 := ((HC.out k hlt).1).below HBL.out (by have := HB.out; omega)
        have hfit := (HC.out k hlt).2
        have HD := Lib.hid (drop_getD es noE k (by rw [← HN.out]; exact hlt))
        obtain ⟨x, hx⟩ : ∃ x, x = es.getD k noE := ⟨_, rfl⟩
        rw [← hx] at h4 hfit HD
        clear hx
        have HZ := Lib.hid (fun W => szEdge x L W hL0 hL1 hfit)
        obtain ⟨z, hz⟩ : ∃ z, z = szE L x := ⟨_, rfl⟩
        have HSZ := Lib.hid (show 0 ≤ z → z ≤ L by rw [hz]; exact fun h => (szE_le h).1)
        have HNG := Lib.hid (show z < 0 → z = -1 by rw [hz]; exact szE_neg hL0)
        rw [← hz] at HZ
        have HZZ := Lib.hid hz
        clear hz hfit
        obtain ⟨c0, c1, c2, c3⟩ := h4
        obtain ⟨xs, xd, xi, xo⟩ := x
        unfold edgeV at HZ
        simp only at c0 c1 c2 c3 HZ
        have hN : w.heap.size ≤ wr.heap.size := HBL.out.size
        clear haa
        go_wp2_with fail
        refine (HZ.out _).mono ?_
        rintro e w1 ⟨rfl, hb⟩
        have HB1 := Lib.hid (HBL.out.trans (hb.mono hN))
        clear hb c0 c1 c2 c3
        by_cases hneg : z < 0
        · have HSS := Lib.hid (show szEs left es = -1 by rw [HE.out, HG.out, HD.out, szEsTo, ← HZZ.out, if_pos hneg])
          go_wp2_with fail
          go_ret
          exact ⟨by rw [HSS.out]; rfl, HB1.out⟩
        · have hz1 : z ≤ 1048576 := by have := HSZ.out (by omega); omega
          go_wp2_with fail
          go_roundw
          case rel => exact ⟨k + 1, z, by omega, by go_num, rfl, by omega, hz1, by rw [HG.out, HD.out, szEsTo, ← HZZ.out, if_neg (by omega)], HB1.out⟩
          case measure => simp [intOf]; omega
      · have HSS := Lib.hid (show szEs left es = L by rw [HE.out, HG.out, List.drop_eq_nil_of_le (by have := HN.out; omega)]; rfl)
        clear haa
        go_wp2
        go_ret
        exact ⟨by rw [HSS.out]; rfl, HBL.out⟩

/-- A transducer as data. -/
structure T where
  start : Int
  accept : List Bool
  edges : List E

/-- The struct value v reads as the transducer t; its rows lie below block B. -/
def TrAt (w : World) (B : Nat) (v : Value) (t : T) : Prop :=
  ∃ va vn, v = .agg #[.int .i64 t.start, va, vn] ∧ Bools w B va t.accept ∧ Edges w B vn t.edges
theorem TrAt.below {w w' : World} {B B' : Nat} {v : Value} {t : T} (h : TrAt w B v t) (hb : Below B' w w') (hB : B ≤ B') : TrAt w' B v t := by
  obtain ⟨va, vn, hv, h1, h2⟩ := h
  exact ⟨va, vn, hv, h1.below hb hB, h2.below hb hB⟩
theorem TrAt.mono {w : World} {B B' : Nat} {v : Value} {t : T} (h : TrAt w B v t) (hB : B ≤ B') : TrAt w B' v t := by
  obtain ⟨va, vn, hv, h1, h2⟩ := h
  exact ⟨va, vn, hv, h1.mono hB, h2.mono hB⟩
theorem TrAt.drew {w : World} {B : Nat} {v : Value} {t : T} (h : TrAt w B v t) : TrAt w.drew B v t := h.below ((Below.refl B w).drew) (Nat.le_refl _)

def szTr (left : Int) (t : T) : Int := if left < (t.accept.length : Int) then -1 else szEs (left - t.accept.length) t.edges

theorem szEs_neg {left : Int} {es : List E} (h0 : 0 ≤ left) (h : szEs left es < 0) : szEs left es = -1 := by
  unfold szEs at h ⊢
  by_cases h1 : left < (es.length : Int)
  · rw [if_pos h1]
  · rw [if_neg h1] at h ⊢
    exact szEsTo_neg _ _ (by omega) h

set_option maxHeartbeats 1000000 in
theorem szTransducer (v : Value) (t : T) (left : Int) (w : World) (B : Nat) (hr : TrAt w B v t) (hB : B ≤ w.heap.size) (h0 : 0 ≤ left) (h1 : left ≤ 1048576) :
    Calls Try.prog 12 #[v, .int .i64 left] w fun e w' => e = .returned (.int .i64 (szTr left t)) ∧ Below w.heap.size w w' := by
  obtain ⟨va, vn, rfl, hacc, hnext⟩ := hr
  obtain ⟨aa, ba, oa, ca, rfl, hma, -, -⟩ := hacc
  obtain ⟨n, hn⟩ : ∃ n, n = t.accept.length := ⟨_, rfl⟩
  rw [← hn] at hma
  rw [← hn]
  have HN := Lib.hid hn
  have B0 := Lib.hid (base_box (Below.refl _ w) (.cells #[.int .i64 t.start, .slice aa n ca, vn] 25))
  have HX := Lib.hid (fun W (h : Below w.heap.size w W) => hnext.below h hB)
  clear hnext hn
  have HBB := Lib.hid hB
  by_cases hc : left < (n : Int)
  · have E1 := Lib.hid (show szL left n = -1 by simp [szL, hc])
    have ES := Lib.hid (show szTr left t = -1 by unfold szTr; rw [if_pos (by rw [← HN.out]; exact hc)])
    go_enter Try.func12, Try.ntmps12
    go_wp2_with (go_at_call 35; refine (szBools aa n ca left _ h0 h1 hma).mono ?_; rw [E1.out]; rintro e w' ⟨rfl, rfl⟩)
    go_ret
    exact ⟨by rw [ES.out]; rfl, B0.out⟩
  · have E1 := Lib.hid (show szL left n = left - n by simp [szL, hc])
    have E2 := Lib.hid (show szTr left t = szEs (left - n) t.edges by unfold szTr; rw [if_neg (by rw [← HN.out]; omega), HN.out])
    have hn0 : ¬ left - (n : Int) < 0 := by omega
    obtain ⟨q, hq⟩ : ∃ q, q = szEs (left - n) t.edges := ⟨_, rfl⟩
    have HC := Lib.hid (fun W (h : Below w.heap.size w W) => szEdges t.edges vn (left - n) W B (HX.out W h) (Nat.le_trans HBB.out h.size) (by omega) (by omega))
    rw [← hq] at HC
    have HNG := Lib.hid (show q < 0 → q = -1 by rw [hq]; exact szEs_neg (by omega))
    have HQ := Lib.hid hq
    clear hq
    by_cases hneg : q < 0
    all_goals
      go_enter Try.func12, Try.ntmps12
      go_wp2_with (go_at_call 35; refine (szBools aa n ca left _ h0 h1 hma).mono ?_; rw [E1.out]; rintro e w' ⟨rfl, rfl⟩)
      refine (HC.out _ B0.out).mono ?_
      rintro e w1 ⟨rfl, hb⟩
      have B1 := Lib.hid (base_step B0.out hb)
      clear hb
      go_wp2_with fail
      go_ret
      first
        | exact ⟨by rw [E2.out, ← HQ.out, HNG.out hneg]; rfl, B1.out⟩
        | exact ⟨by rw [E2.out, ← HQ.out]; rfl, B1.out⟩
end Go.Proofs.Ytjoiaenkmmmmpaa.Edg
