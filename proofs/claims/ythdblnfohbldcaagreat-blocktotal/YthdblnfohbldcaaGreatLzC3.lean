/-
  What the program reads: a number, a token.
-/
import Derived.Test.YthdblnfohbldcaaGreatLzC2
import Derived.Deep.RegionHeld
import Derived.Laws.ResultCell
namespace Go.Proofs.YthdblnfohbldcaaGreat.Lz
open Go.ChangeShapes Go.WideShapes Go.ChangeAt Go.RowKit
open Go.Proofs.YthdblnfohbldcaaGreat.Base Go.Proofs.YthdblnfohbldcaaGreat.Nums
set_option linter.unusedVariables false
theorem ret2 {t : Nat × Nat} {x y : Nat} {a b : Int} (h : t = (x, y)) (ha : a = (x : Int)) (hb : b = (y : Int)) :
    Ending.returned (.tuple #[.int .i64 a, .int .i64 b]) = .returned (.tuple #[.int .i64 (t.1 : Nat), .int .i64 (t.2 : Nat)]) := by
  subst h ha hb; rfl
set_option maxHeartbeats 1000000 in
set_option maxRecDepth 100000 in
theorem number_any (a : Option Addr) (len cap : Nat) (bs : List (BitVec 8)) (most : Int) (w : World) (hr : Rd w a len bs) (hcap : len ≤ cap) (hm : cap ≤ 9223372036854775807) :
    Calls Tryz.prog 134 #[.slice a len cap, .int .i64 most] w fun e w' => e = .returned (.tuple #[.int .i64 ((number bs most).1 : Nat), .int .i64 ((number bs most).2 : Nat)]) ∧ Below w.heap.size w w' := by
  have R := hide hr
  clear hr
  have HD : Hid (number bs most = if (get bs).2.2 ≠ 0 ∨ most < ((get bs).1 : Int) then (0, 0) else ((get bs).1, (get bs).2.1)) := rfl
  go_enter Tryz.func134, Tryz.ntmps134
  go_wp2_with fail
  refine (get_any _ _ _ _ _ R.out hcap hm).mono ?_
  rintro e w1 ⟨rfl, hb⟩
  have HB := hide hb
  clear hb R hcap hm
  generalize get bs = G at HD
  obtain ⟨gv, gn, ge⟩ := G
  simp only at HD ⊢
  by_cases he : ge = 0
  · subst he
    by_cases hm : most < (gv : Int)
    · have HE : Hid (number bs most = (0, 0)) := by
        have := HD.out; rw [if_pos (.inr hm)] at this; exact this
      go_wp2_with fail
      go_ret2
      exact ⟨ret2 HE.out rfl rfl, HB.out⟩
    · have HE : Hid (number bs most = (gv, gn)) := by
        have := HD.out; rw [if_neg (by simp; omega)] at this; exact this
      go_wp2_with fail
      go_ret2
      exact ⟨ret2 HE.out rfl rfl, HB.out⟩
  · have HE : Hid (number bs most = (0, 0)) := by
      have := HD.out; rw [if_pos (.inl he)] at this; exact this
    have hb : ((ge : Int) != 0) = true := by rw [bne_iff_ne]; omega
    go_wp2_with fail
    go_ret2
    exact ⟨ret2 HE.out rfl rfl, HB.out⟩
theorem results_tok {fn : Func} {p u : Tmp} (h : fn.results = #[.cell p 74, .tmp u]) (tmps : Array Value) (w : World) (g : Nat) (v : Value) (d l : Int) (hp : tmps.getD p undef = .pointer (some ⟨g, 0, none⟩)) (ht : TRow w g v d l) :
    (results fn tmps).run Tryz.prog w = .ok (.tuple #[.agg #[v, .int .i64 d, .int .i64 l], tmps.getD u undef]) w := by
  rw [results_cell_tmp h, hp]
  simp [asAddr, run_loadVar_row w g 74 74 _ (0, 0) _ ht Tryz.underlying74 rfl (by kernel_rfl)]
theorem elem8 : Tryz.prog.underlying 24 = some (.slice (Tryz.prog.elem 24)) := by kernel_rfl
theorem size8 (W : World) : (sizeOf (Tryz.prog.elem 24)).run Tryz.prog W = .ok 1 W := by
  have h : (Tryz.prog.info? (Tryz.prog.elem 24)).map (·.size) = some 1 := by kernel_rfl
  cases hq : Tryz.prog.info? (Tryz.prog.elem 24) with
  | none => simp [hq] at h
  | some i => simp [hq] at h; simp [sizeOf, typeInfo, hq, h]
/-- 'b[p:p+c:p+c]', whatever c is. -/
theorem slice_lhm (b off len cap p c e : Nat) (he : p + c = e) (h : e ≤ cap) : ∃ la : Addr, (∀ W, (Instr.sliceAt 24 (.slice (some ⟨b, off, none⟩) len cap) (some (.int .i64 (p : Int))) (some (.int .i64 (e : Int))) (some (.int .i64 (e : Int)))).run Tryz.prog W = .ok (.slice (some la) c c) W) ∧
    (0 < c → la = ⟨b, off + p, none⟩) ∧ la.spot = none ∧ la.block = b := by
  refine ⟨if c = 0 then ⟨b, off, none⟩ else ⟨b, off + p, none⟩, fun W => ?_, fun hc => by rw [if_neg (by omega)], by split <;> rfl, by split <;> rfl⟩
  rw [run_sliceAt_slice (h := elem8), run_slice_lhm (ht := elem8) (h0 := by omega) (h1 := by omega) (h2 := by omega) (h3 := by omega), size8]
  simp only [Result.andThen, sliced, Int.toNat_natCast]
  by_cases hc : c = 0
  · rw [if_pos (by omega), if_pos hc, show e - p = c by omega]
  · rw [if_neg (by omega), if_neg hc, show e - p = c by omega]
    simp [Addr.add]
/-- 'b[e:]'. -/
theorem slice_l (b off len cap e : Nat) (h : e ≤ len) (hc : len ≤ cap) : ∃ la : Addr, (∀ W, (Instr.sliceAt 24 (.slice (some ⟨b, off, none⟩) len cap) (some (.int .i64 (e : Int))) none none).run Tryz.prog W = .ok (.slice (some la) (len - e) (cap - e)) W) ∧
    (e < len → la = ⟨b, off + e, none⟩) ∧ la.spot = none ∧ la.block = b := by
  refine ⟨if cap = e then ⟨b, off, none⟩ else ⟨b, off + e, none⟩, fun W => ?_, fun hc => by rw [if_neg (by omega)], by split <;> rfl, by split <;> rfl⟩
  rw [run_sliceAt_slice (h := elem8), run_slice_l (ht := elem8) (h0 := by omega) (h1 := by omega), size8]
  simp only [Result.andThen, sliced, Int.toNat_natCast]
  by_cases hc : cap = e
  · rw [if_pos hc, if_pos hc]
  · rw [if_neg hc, if_neg hc]
    simp [Addr.add]
theorem rd_sub {w : World} {b off len p c : Nat} {la : Addr} {bs : List (BitVec 8)} (hr : Rd w (some ⟨b, off, none⟩) len bs) (h : p + c ≤ len) (hl : 0 < c → la = ⟨b, off + p, none⟩) : Rd w (some la) c ((bs.drop p).take c) := by
  by_cases hc : c = 0
  · subst hc; rw [List.take_zero]; exact rd_zero _ _
  · rw [hl (by omega)]
    exact (hr.from p (by omega)).cut c (by omega)
theorem rd_rest {w : World} {b off len e : Nat} {la : Addr} {bs : List (BitVec 8)} (hr : Rd w (some ⟨b, off, none⟩) len bs) (h : e ≤ len) (hl : e < len → la = ⟨b, off + e, none⟩) : Rd w (some la) (len - e) (bs.drop e) := by
  by_cases hc : e < len
  · rw [hl hc]; exact hr.from e h
  · have : bs.drop e = [] := List.drop_eq_nil_of_le (by have := hr.1; omega)
    rw [this, show len - e = 0 by omega]; exact rd_zero _ _
theorem TRow.put3 {w : World} {g : Nat} {v u : Value} {p e q r : Int} (h : TRow w g v p e) : TRow (((w.setCell ⟨g, 0, none⟩ u).setCell ⟨g, 1, none⟩ (.int .i64 q)).setCell ⟨g, 2, none⟩ (.int .i64 r)) g u q r :=
  heap_setCell_same _ _ _ _ _ _ (heap_setCell_same _ _ _ _ _ _ (heap_setCell_same _ _ _ _ _ _ h))
theorem TRow.put0 {w : World} {g : Nat} {v u : Value} {p e : Int} (h : TRow w g v p e) : TRow (w.setCell ⟨g, 0, none⟩ u) g u p e := heap_setCell_same _ _ _ _ _ _ h
theorem TRow.put12 {w : World} {g : Nat} {v : Value} {p e q r : Int} (h : TRow w g v p e) : TRow ((w.setCell ⟨g, 1, none⟩ (.int .i64 q)).setCell ⟨g, 2, none⟩ (.int .i64 r)) g v q r :=
  heap_setCell_same _ _ _ _ _ _ (heap_setCell_same _ _ _ _ _ _ h)
theorem below_cell {w w1 : World} {g : Nat} (hb : Below w.heap.size w w1) (hg : w.heap.size ≤ g) (k : Nat) (v : Value) : Below w.heap.size w (w1.setCell ⟨g, k, none⟩ v) :=
  grown_below hb (grown_cell (World.grownBy.refl _ _) k v) hg
theorem below_put3 {w w1 : World} {g : Nat} {u v r : Value} (hb : Below w.heap.size w w1) (hg : w.heap.size ≤ g) : Below w.heap.size w (((w1.setCell ⟨g, 0, none⟩ u).setCell ⟨g, 1, none⟩ v).setCell ⟨g, 2, none⟩ r) :=
  below_cell (below_cell (below_cell hb hg 0 u) hg 1 v) hg 2 r
/-- What 'first' answers. -/
def Firsts (w w' : World) (r : Option (Tok × Nat)) (e : Ending) : Prop :=
  ∃ v s, e = .returned (.tuple #[v, .int .i64 s]) ∧ Below w.heap.size w w' ∧ (match r with
    | none => s = 0 ∧ ∃ la ln lc d l, v = .agg #[.slice la ln lc, .int .i64 d, .int .i64 l]
    | some (t, sz) => s = (sz : Int) ∧ sz ≠ 0 ∧ ∃ la lc, v = .agg #[.slice la t.lit.length lc, .int .i64 t.dist, .int .i64 t.len] ∧ Rd w la t.lit.length t.lit ∧ (la = none → t.lit.length = 0 ∧ lc = 0) ∧ t.lit.length ≤ lc ∧ lc ≤ 9223372036854775807)
theorem first_none1 (b : List (BitVec 8)) (h n : Nat) (c p : Nat) (e : number b ((n : Int) - h) = (c, p)) (hp : p = 0 ∨ b.length - p < c) : first b h n = none := by
  unfold first; rw [e]; simp only; rw [if_pos hp]
theorem first_bare (b : List (BitVec 8)) (h n : Nat) (c p : Nat) (e : number b ((n : Int) - h) = (c, p)) (hp : ¬ (p = 0 ∨ b.length - p < c)) (hc : h + c = n) : first b h n = some (⟨(b.drop p).take c, 0, 0⟩, p + c) := by
  unfold first; rw [e]; simp only; rw [if_neg hp, if_pos hc]
theorem first_none2 (b : List (BitVec 8)) (h n : Nat) (c p : Nat) (e : number b ((n : Int) - h) = (c, p)) (hp : ¬ (p = 0 ∨ b.length - p < c)) (hc : ¬ h + c = n) (m q : Nat)
    (e2 : number (b.drop (p + c)) (min 259 ((n : Int) - (h + c)) - 4) = (m, q)) (hq : q = 0) : first b h n = none := by
  unfold first; rw [e]; simp only; rw [if_neg hp, if_neg hc, e2]; simp only; rw [if_pos hq]
theorem first_none3 (b : List (BitVec 8)) (h n : Nat) (c p : Nat) (e : number b ((n : Int) - h) = (c, p)) (hp : ¬ (p = 0 ∨ b.length - p < c)) (hc : ¬ h + c = n) (m q : Nat)
    (e2 : number (b.drop (p + c)) (min 259 ((n : Int) - (h + c)) - 4) = (m, q)) (hq : ¬ q = 0) (d r : Nat) (e3 : number (b.drop (p + c + q)) (min 32768 ((h : Int) + c)) = (d, r)) (hr : r = 0 ∨ d = 0) : first b h n = none := by
  unfold first; rw [e]; simp only; rw [if_neg hp, if_neg hc, e2]; simp only; rw [if_neg hq, e3]; simp only; rw [if_pos hr]
theorem first_match (b : List (BitVec 8)) (h n : Nat) (c p : Nat) (e : number b ((n : Int) - h) = (c, p)) (hp : ¬ (p = 0 ∨ b.length - p < c)) (hc : ¬ h + c = n) (m q : Nat)
    (e2 : number (b.drop (p + c)) (min 259 ((n : Int) - (h + c)) - 4) = (m, q)) (hq : ¬ q = 0) (d r : Nat) (e3 : number (b.drop (p + c + q)) (min 32768 ((h : Int) + c)) = (d, r)) (hr : ¬ (r = 0 ∨ d = 0)) :
    first b h n = some (⟨(b.drop p).take c, (d : Int), (m : Int) + 4⟩, p + c + q + r) := by
  unfold first; rw [e]; simp only; rw [if_neg hp, if_neg hc, e2]; simp only; rw [if_neg hq, e3]; simp only; rw [if_neg hr]
theorem number_le (b : List (BitVec 8)) (most : Int) (v s : Nat) (e : number b most = (v, s)) (h0 : 0 ≤ most) : (v : Int) ≤ most ∧ s ≤ b.length := by
  rcases number_cases b most with h1 | ⟨u, rest, h1, h2, h3, _⟩
  · rw [h1] at e; cases e; omega
  · rw [h1] at e; cases e; rw [h2, List.length_append]; omega
set_option maxHeartbeats 4000000 in
set_option maxRecDepth 100000 in
theorem first_any (a : Option Addr) (len cap : Nat) (bs : List (BitVec 8)) (h n : Nat) (w : World) (hr : Rd w a len bs) (hcap : len ≤ cap) (hm : cap ≤ 9223372036854775807) (hn : h < n) (hn2 : n ≤ 65536) :
    Calls Tryz.prog 89 #[.slice a len cap, .int .i64 (h : Int), .int .i64 (n : Int)] w fun e w' => Firsts w w' (first bs h n) e := by
  have R := hide hr
  have HL := hide hr.1
  have hlm := hr.2.1
  clear hr
  have hni : (n : Int) ≤ 65536 := by omega
  have hhi : (h : Int) ≤ 65535 := by omega
  have HN := hide hn
  have HN2 := hide hn2
  clear hn hn2
  have HB0 : Hid (Below w.heap.size w (w.alloc (.cells #[.slice none 0 0, .int .i64 0, .int .i64 0] 74))) := (Below.refl _ _).alloc (Nat.le_refl _) _
  have HT0 := hide (TRow.new w (.slice none 0 0) 0 0)
  go_enter Tryz.func89, Tryz.ntmps89
  go_wp2_with fail
  refine (number_any a len cap bs ((n : Int) - (h : Int)) _ (R.out.below HB0.out) hcap hm).mono ?_
  rintro e w1 ⟨rfl, hb1⟩
  have HB1 := hide (below_trans HB0.out hb1)
  have HT1 := hide (HT0.out.below hb1)
  clear hb1 HB0 HT0
  generalize hq1 : number bs ((n : Int) - (h : Int)) = q1
  obtain ⟨c, p⟩ := q1
  have HQ1 := hide hq1
  obtain ⟨hcle, hple⟩ := number_le _ _ _ _ hq1 (by have := HN.out; omega)
  rw [HL.out] at hple
  clear hq1
  simp only
  have HK0 := hide HT1.out.c0
  have k0 := HT1.out.c0
  have k1 := HT1.out.c1
  have k2 := HT1.out.c2
  have f0 := HT1.out.fr 0
  have f1 := HT1.out.fr 1
  have f2 := HT1.out.fr 2
  have HT0' := HT1.out.put3 (u := .slice none 0 0) (q := 0) (r := 0)
  have HF := hide HT0'
  have HFB := hide (below_put3 (u := .slice none 0 0) (v := .int .i64 0) (r := .int .i64 0) HB1.out (Nat.le_refl _))
  clear HT0'
  by_cases hp0 : p = 0
  · subst hp0
    have HR : Hid (first bs h n = none) := first_none1 bs h n c 0 HQ1.out (.inl rfl)
    go_wp2_with fail
    refine bodyPost_ret (results_tok rfl _ _ w.heap.size _ _ _ rfl HF.out) rfl ?_
    rw [HR.out]
    exact ⟨_, _, rfl, HFB.out, rfl, _, _, _, _, _, rfl⟩
  · have hpb : ((p : Int) == 0) = false := by rw [beq_eq_false_iff_ne]; omega
    obtain ⟨ab, ao, rfl, _, _⟩ := R.out.2.2 (by omega)
    by_cases hcl : (len : Int) - (p : Int) < (c : Int)
    · have HR : Hid (first bs h n = none) := first_none1 bs h n c p HQ1.out (.inr (by rw [HL.out]; omega))
      go_wp2_with fail
      refine bodyPost_ret (results_tok rfl _ _ w.heap.size _ _ _ rfl HF.out) rfl ?_
      rw [HR.out]
      exact ⟨_, _, rfl, HFB.out, rfl, _, _, _, _, _, rfl⟩
    · clear HF HFB
      have HC1 : Hid (¬ (p = 0 ∨ bs.length - p < c)) := by show ¬ _; rw [HL.out]; omega
      obtain ⟨e, he⟩ : ∃ e, p + c = e := ⟨_, rfl⟩
      obtain ⟨la, hsl, hla, hls, hlb⟩ := slice_lhm ab ao len cap p c e he (by omega)
      have HLA := hide (rd_sub R.out (p := p) (c := c) (by omega) hla)
      have hei : (p : Int) + (c : Int) = (e : Int) := by omega
      have hel : (e : Int) ≤ (len : Int) := by omega
      obtain ⟨hc, hhc⟩ : ∃ hc, h + c = hc := ⟨_, rfl⟩
      have hhci : (h : Int) + (c : Int) = (hc : Int) := by omega
      have hhcl : (hc : Int) ≤ (n : Int) := by omega
      have HHC := hide hhc
      have HE := hide he
      have HLS := hide hls
      clear hla hls hlb hcl hhc he
      by_cases hfin : (hc : Int) = (n : Int)
      · have HR : Hid (first bs h n = some (⟨(bs.drop p).take c, 0, 0⟩, e)) := by
          have h1 := first_bare bs h n c p HQ1.out HC1.out (by have := HHC.out; omega)
          rw [HE.out] at h1; exact h1
        have hb : ((hc : Int) == (n : Int)) = true := by rw [beq_iff_eq]; exact hfin
        clear hfin
        go_wp2_with fail
        refine bodyPost_ret (results_tok rfl _ _ w.heap.size _ _ _ rfl (HT1.out.put0 (u := .slice (some la) c c)).put3) rfl ?_
        rw [HR.out]
        have hlc : ((bs.drop p).take c).length = c := HLA.out.1
        refine ⟨_, _, rfl, below_put3 (below_cell HB1.out (Nat.le_refl _) 0 _) (Nat.le_refl _), rfl, by have := HE.out; omega, some la, c, by rw [hlc], by rw [hlc]; exact HLA.out, fun h => (by cases h), by rw [hlc]; exact Nat.le_refl _, by omega⟩
      · have hb : ((hc : Int) == (n : Int)) = false := by rw [beq_eq_false_iff_ne]; exact hfin
        have HF1 : Hid (¬ h + c = n) := by show ¬ _; have := HHC.out; omega
        have HT2 := hide (HT1.out.put0 (u := .slice (some la) c c))
        have HB2 := hide (below_cell HB1.out (Nat.le_refl _) 0 (.slice (some la) c c))
        obtain ⟨lb, hsl2, hlb2, hls2, _⟩ := slice_l ab ao len cap e (by omega) hcap
        have HLB := hide (rd_rest R.out (by omega) hlb2)
        clear hlb2 hls2
        obtain ⟨mx, hmx, hmx1, hmx2⟩ : ∃ mx : Int, (if (n : Int) - (hc : Int) < 259 then (n : Int) - (hc : Int) else 259) = mx ∧ Hid (mx = min 259 ((n : Int) - ((h : Int) + (c : Int)))) ∧ (1 ≤ mx ∧ mx ≤ 259) := by
          refine ⟨_, rfl, ?_, ?_⟩
          · show _ = _; split <;> omega
          · split <;> omega
        obtain ⟨hm1, hm2⟩ := hmx2
        go_wp2_with fail
        refine (number_any (some lb) (len - e) (cap - e) (bs.drop e) (mx - 4) _ (HLB.out.below HB2.out) (by omega) (by omega)).mono ?_
        rintro e2 w3 ⟨rfl, hb3⟩
        have HB3 := hide (below_trans HB2.out hb3)
        have HT3 := hide (HT2.out.below hb3)
        clear hb3 HB1 HT1 k0 k1 k2 f0 f1 f2 HK0 HB2 HT2
        generalize hq2 : number (bs.drop e) (mx - 4) = q2
        obtain ⟨m, q⟩ := q2
        have HQ2 : Hid (number (bs.drop (p + c)) (min 259 ((n : Int) - ((h : Int) + (c : Int))) - 4) = (m, q)) := by
          show _ = _; rw [HE.out, ← hmx1.out]; exact hq2
        have hqle : q ≤ len - e := by
          rcases number_cases (bs.drop e) (mx - 4) with h1 | ⟨u, rest, h1, h2, _⟩
          · rw [h1] at hq2; cases hq2; omega
          · rw [h1] at hq2; cases hq2
            have := congrArg List.length h2
            rw [List.length_drop, List.length_append, HL.out] at this; omega
        have hmle : (m : Int) ≤ 255 := by
          rcases number_cases (bs.drop e) (mx - 4) with h1 | ⟨u, rest, h1, h2, h3, _⟩
          · rw [h1] at hq2; cases hq2; omega
          · rw [h1] at hq2; cases hq2; omega
        clear hq2
        simp only
        have k0 := HT3.out.c0
        have k1 := HT3.out.c1
        have k2 := HT3.out.c2
        have f0 := HT3.out.fr 0
        have f1 := HT3.out.fr 1
        have f2 := HT3.out.fr 2
        by_cases hq0 : q = 0
        · subst hq0
          have HR : Hid (first bs h n = none) := first_none2 bs h n c p HQ1.out HC1.out HF1.out m 0 HQ2.out rfl
          go_wp2_with fail
          refine bodyPost_ret (results_tok rfl _ _ w.heap.size _ _ _ rfl HT3.out.put3) rfl ?_
          rw [HR.out]
          exact ⟨_, _, rfl, below_put3 HB3.out (Nat.le_refl _), rfl, _, _, _, _, _, rfl⟩
        · have hqb : ((q : Int) == 0) = false := by rw [beq_eq_false_iff_ne]; omega
          obtain ⟨e', he'⟩ : ∃ e', e + q = e' := ⟨_, rfl⟩
          have hei' : (e : Int) + (q : Int) = (e' : Int) := by omega
          have hel' : (e' : Int) ≤ (len : Int) := by omega
          obtain ⟨lc, hsl3, hlc3, hls3, _⟩ := slice_l ab ao len cap e' (by omega) hcap
          have HLC := hide (rd_rest R.out (by omega) hlc3)
          have HE' := hide he'
          clear hlc3 hls3 he'
          obtain ⟨my, hmy, hmy1, hmy2⟩ : ∃ my : Int, (if (hc : Int) < 32768 then (hc : Int) else 32768) = my ∧ Hid (my = min 32768 ((h : Int) + (c : Int))) ∧ (0 ≤ my ∧ my ≤ 32768) := by
            refine ⟨_, rfl, ?_, ?_⟩
            · show _ = _; split <;> omega
            · split <;> omega
          obtain ⟨hy1, hy2⟩ := hmy2
          go_wp2_with fail
          refine (number_any (some lc) (len - e') (cap - e') (bs.drop e') my _ (HLC.out.below HB3.out) (by omega) (by omega)).mono ?_
          rintro e2 w4 ⟨rfl, hb4⟩
          have HB4 := hide (below_trans HB3.out hb4)
          have HT4 := hide (HT3.out.below hb4)
          clear hb4 HB3 HT3 k0 k1 k2 f0 f1 f2
          generalize hq3 : number (bs.drop e') my = q3
          obtain ⟨d, r⟩ := q3
          have HQ3 : Hid (number (bs.drop (p + c + q)) (min 32768 ((h : Int) + (c : Int))) = (d, r)) := by
            show _ = _; rw [HE.out, HE'.out, ← hmy1.out]; exact hq3
          have hrle : (r : Int) ≤ 140737488355328 := by
            rcases number_cases (bs.drop e') my with h1 | ⟨u, rest, h1, h2, _⟩
            · rw [h1] at hq3; cases hq3; omega
            · rw [h1] at hq3; cases hq3
              have := congrArg List.length h2
              rw [List.length_drop, List.length_append, HL.out] at this; omega
          clear hq3
          simp only
          have k0 := HT4.out.c0
          have k1 := HT4.out.c1
          have k2 := HT4.out.c2
          have f0 := HT4.out.fr 0
          have f1 := HT4.out.fr 1
          have f2 := HT4.out.fr 2
          by_cases hr0 : r = 0
          · subst hr0
            have HR : Hid (first bs h n = none) := first_none3 bs h n c p HQ1.out HC1.out HF1.out m q HQ2.out hq0 d 0 HQ3.out (.inl rfl)
            go_wp2_with fail
            refine bodyPost_ret (results_tok rfl _ _ w.heap.size _ _ _ rfl HT4.out.put3) rfl ?_
            rw [HR.out]
            exact ⟨_, _, rfl, below_put3 HB4.out (Nat.le_refl _), rfl, _, _, _, _, _, rfl⟩
          · have hrb : ((r : Int) == 0) = false := by rw [beq_eq_false_iff_ne]; omega
            by_cases hd0 : d = 0
            · subst hd0
              have HR : Hid (first bs h n = none) := first_none3 bs h n c p HQ1.out HC1.out HF1.out m q HQ2.out hq0 0 r HQ3.out (.inr rfl)
              go_wp2_with fail
              refine bodyPost_ret (results_tok rfl _ _ w.heap.size _ _ _ rfl HT4.out.put3) rfl ?_
              rw [HR.out]
              exact ⟨_, _, rfl, below_put3 HB4.out (Nat.le_refl _), rfl, _, _, _, _, _, rfl⟩
            · have hdb : ((d : Int) == 0) = false := by rw [beq_eq_false_iff_ne]; omega
              have HR : Hid (first bs h n = some (⟨(bs.drop p).take c, (d : Int), (m : Int) + 4⟩, e' + r)) := by
                have h1 := first_match bs h n c p HQ1.out HC1.out HF1.out m q HQ2.out hq0 d r HQ3.out (by omega)
                rw [HE.out, HE'.out] at h1; exact h1
              go_wp2_with fail
              refine bodyPost_ret (results_tok rfl _ _ w.heap.size _ _ _ rfl (HT4.out.put12 (q := (d : Int)) (r := (m : Int) + 4)).put3) rfl ?_
              rw [HR.out]
              have hlc : ((bs.drop p).take c).length = c := HLA.out.1
              refine ⟨_, _, rfl, below_put3 (below_cell (below_cell HB4.out (Nat.le_refl _) 1 _) (Nat.le_refl _) 2 _) (Nat.le_refl _), by simp, by omega, some la, c, by rw [hlc], by rw [hlc]; exact HLA.out, fun h => (by cases h), by rw [hlc]; exact Nat.le_refl _, by omega⟩
end Go.Proofs.YthdblnfohbldcaaGreat.Lz
