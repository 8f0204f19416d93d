/-
  The document's cursor: Take.
-/
import Derived.Test.YtcchknpgkcmneaaNcR2
import Derived.Deep.RegionHeldLaw
import Derived.Deep.DeepCutAuto
import Derived.BigRegion
namespace Go.Proofs.Ytcchknpgkcmneaa.Curs
open Go.ChangeShapes Go.WideShapes Go.ChangeAt Go.RowKit
open Go.Proofs.Ytcchknpgkcmneaa.Base Go.Proofs.Ytcchknpgkcmneaa.Nums
set_option linter.unusedVariables false
theorem rtake_nil (k : Int) (w : World) : Calls Try.prog 52 #[.pointer none, .int .i64 k] w fun e w' => e = .returned (.slice none 0 0) ∧ w' = w := by
  go_enter Try.func52, Try.ntmps52
  go_wp2
  go_ret
  exact ⟨rfl, rfl⟩
theorem rtake_dead (g : Nat) (v : Value) (p er wa k : Int) (w : World) (h : Row5 w g v p true er wa) : Calls Try.prog 52 #[.pointer (some ⟨g, 0, none⟩), .int .i64 k] w fun e w' => e = .returned (.slice none 0 0) ∧ w' = w := by
  have c2 := h.c2
  clear h
  go_enter Try.func52, Try.ntmps52
  go_wp2
  go_ret
  exact ⟨rfl, rfl⟩
/-- append of a whole slice onto a slice of the call's own, as one step of a region that draws its order. -/
theorem step_join {ops : Array Oper} {o : Oper} {a : Act} {w : World} {K : Act → World → Prop} {Q : Exit → Act → World → Prop} {E : Prop} (hgd : o.guard = none) (s x : Operand)
    (ho : o.op = .call { callee := .builtin .append, args := #[s, x], argTypes := #[22, 22] })
    (base : Nat) (v : Value) (bs : List (BitVec 8)) (hs : a.eval s = v) (hown : Own w base v bs) (xa : Option Addr) (m cap : Nat) (cs : List (BitVec 8)) (hx : a.eval x = .slice xa m cap)
    (hr : Rd w xa m cs) (hnil : xa = none → m = 0 ∧ cap = 0) (hl : bs.length + m ≤ 140737488355328) (hbase : base ≤ w.heap.size)
    (h : ∀ v' w', Own w' base v' (bs ++ cs) → w.grownBy w' v.ownBlock → K (a.put o.dst v') w') :
    if Region.wanted o (yielded ops a.tmps) = true then Oper.wp Try.prog o a w K Q else E := by
  obtain ⟨i0, hi, hz0, hz1, hz2⟩ := info_parts info8
  have hcl := hr.1
  cases xa with
  | none =>
    obtain ⟨rfl, rfl⟩ := hnil rfl
    have : cs = [] := List.length_eq_zero_iff.1 hcl
    subst this
    have hw : Region.wanted o (yielded ops a.tmps) = true := by simp [Region.wanted, hgd]
    rw [if_pos hw]
    have hrun := run_append_owned_none (P := Try.prog) (w := w) base 22 o.type 5 i0 1 Try.underlying22 hi v bs.length (vals bs) hown
    have hh := h v w (by rw [List.append_nil]; exact hown) (World.grownBy.refl _ _)
    unfold Oper.wp
    simp [execOp, ho, resolve, invoke, builtin, hs, hx, hrun, Result.andThen]
    exact hh
  | some ad =>
    refine step_append_own hgd s x 22 ho base 5 i0 (.int .u8 0) 1 1 Try.underlying22 hi hz0 hz1 hz2 rfl (by omega) v bs.length (vals bs) hs hown ad m cap (vals cs) hx (by rw [length_vals]; omega) (fun j u hu => hr.cellsAt ad rfl j u hu) (vals_one _) (by unfold maxLen; omega) (by omega) hbase ?_
    intro v' w' h1 h2 _
    exact h v' w' (own_append h1 (by omega)) h2
theorem step_join_d {ops : Array Oper} {o : Oper} {a : Act} {w : World} {K : Act → World → Prop} {Q : Exit → Act → World → Prop} {E : Prop} (hgd : o.guard = none) (s x : Operand)
    (ho : o.op = .call { callee := .builtin .append, args := #[s, x], argTypes := #[22, 22] }) (d : Tmp) (hd : o.dst = some d)
    (base : Nat) (v : Value) (bs : List (BitVec 8)) (hs : a.eval s = v) (hown : Own w base v bs) (xa : Option Addr) (m cap : Nat) (cs : List (BitVec 8)) (hx : a.eval x = .slice xa m cap)
    (hr : Rd w xa m cs) (hnil : xa = none → m = 0 ∧ cap = 0) (hl : bs.length + m ≤ 140737488355328) (hbase : base ≤ w.heap.size)
    (h : ∀ v' w', Own w' base v' (bs ++ cs) → w.grownBy w' v.ownBlock → K (a.put (some d) v') w') :
    if Region.wanted o (yielded ops a.tmps) = true then Oper.wp Try.prog o a w K Q else E :=
  step_join hgd s x ho base v bs hs hown xa m cap cs hx hr hnil hl hbase (fun v' w' h1 h2 => by rw [hd]; exact h v' w' h1 h2)
set_option maxHeartbeats 1000000 in
set_option maxRecDepth 100000 in
theorem rtake_neg (g : Nat) (v : Value) (p k : Int) (w : World) (h : Row5 w g v p false 0 0) (hk : k < 0) : Calls Try.prog 52 #[.pointer (some ⟨g, 0, none⟩), .int .i64 k] w fun e w' => e = .returned (.slice none 0 0) ∧ w.grownBy w' (some g) ∧ Row5 w' g v p true 23 p := by
  have HROW := hide h
  have c2 := h.c2
  clear h
  go_enter Try.func52, Try.ntmps52
  go_wp2_with fail
  refine (rfail_any g _ p 23 w HROW.out (by decide)).mono ?_
  rintro e w2 ⟨rfl, hr2, hg2⟩
  have HR2 := hide hr2
  have HG2 := hide hg2
  clear hr2 hg2
  go_wp2_with fail
  go_ret
  exact ⟨rfl, HG2.out, HR2.out⟩
set_option maxHeartbeats 1000000 in
set_option maxRecDepth 100000 in
theorem rtake_short (g p n c m : Nat) (a : Option Addr) (k : Int) (w : World) (h : Row5 w g (.slice a n c) (p : Int) false 0 0) (hm : p + m = n) (hn : n ≤ 140737488355328) (hl : (m : Int) < k) : Calls Try.prog 52 #[.pointer (some ⟨g, 0, none⟩), .int .i64 k] w fun e w' => e = .returned (.slice none 0 0) ∧ w.grownBy w' (some g) ∧ Row5 w' g (.slice a n c) (p : Int) true 20 (p : Int) := by
  have HROW := hide h
  have c2 := h.c2
  have HC := hide (rrest_any g p n c m a w h hm hn)
  have hk : ¬ k < 0 := by omega
  clear h hm
  go_enter Try.func52, Try.ntmps52
  go_wp2_with fail
  refine HC.out.mono ?_
  rintro e w1 ⟨rfl, hb1⟩
  have HB := hide hb1
  have HR1 := hide (HROW.out.below hb1)
  clear hb1 HC
  go_wp2_with fail
  refine (rfail_any g _ (p : Int) 20 w1 HR1.out (by decide)).mono ?_
  rintro e w2 ⟨rfl, hr2, hg2⟩
  have HR2 := hide hr2
  have HG2 := hide (grown_trans (grown_any (below_grown HB.out) (some g)) hg2)
  clear hr2 hg2
  go_wp2_with fail
  go_ret
  exact ⟨rfl, HG2.out, HR2.out⟩
set_option maxHeartbeats 1000000 in
set_option maxRecDepth 100000 in
theorem rtake_ok (g p n c m t : Nat) (a : Option Addr) (bs : List (BitVec 8)) (w : World) (hrow : Row5 w g (.slice a n c) (p : Int) false 0 0) (hrd : Rd w a n bs) (hsl : Sl a n c) (hm : p + m = n) (had : ∀ ad, a = some ad → ad.block ≠ g ∧ ad.block < w.heap.size) (ht : t ≤ m) : Calls Try.prog 52 #[.pointer (some ⟨g, 0, none⟩), .int .i64 (t : Int)] w fun e w' => (∃ v, e = .returned v ∧ Own w' w.heap.size v ((bs.drop p).take t)) ∧ w.grownBy w' (some g) ∧ Row5 w' g (.slice a n c) ((p + t : Nat) : Int) false 0 0 ∧ Rd w' a n bs := by
  have HROW := hide hrow
  have HRD := hide hrd
  have HAD := hide had
  have hn47 : n ≤ 140737488355328 := hrd.2.1
  have HC := hide (rrest_any g p n c m a w hrow hm hn47)
  have c2 := hrow.c2
  have hk : ¬ (t : Int) < 0 := by omega
  have hl : ¬ (m : Int) < (t : Int) := by omega
  have hl2 : decide (m < t) = false := by simp; omega
  obtain ⟨q, hq⟩ : ∃ q, p + t = q := ⟨_, rfl⟩
  have hqn : q ≤ n := by omega
  have hsum := hide (show (p : Int) + (t : Int) = (q : Int) by omega)
  have hwq : IntKind.i64.wrap (q : Int) = (q : Int) := by rw [IntKind.wrap_i64]; omega
  have hwsum : IntKind.i64.wrap ((p : Int) + (t : Int)) = (q : Int) := by rw [IntKind.wrap_i64]; omega
  obtain ⟨la, cc, hsa, hra, hrz⟩ := slice_part a n c p t q hsl hq hqn
  have HRA : Hid (∀ W, Rd W a n bs → Rd W la t ((bs.drop p).take t)) := fun W h => hra W bs h
  have HRZ := hide hrz
  have HQ := hide hq
  have HLT : Hid (((bs.drop p).take t).length = t) := by show _ = _; rw [List.length_take, List.length_drop, hrd.1]; omega
  generalize (bs.drop p).take t = X at HRA HLT
  have ht47 : t ≤ 140737488355328 := by omega
  have hqi : (q : Int) ≤ 140737488355328 := by omega
  rw [hq]
  clear hq hra hrz hrow hrd had hm hsl
  go_enter Try.func52, Try.ntmps52
  go_wp2_with fail
  refine HC.out.mono ?_
  rintro e w1 ⟨rfl, hb1⟩
  have HB := hide hb1
  have HR1 := hide (HROW.out.below hb1)
  have HRD1 := hide (HRD.out.below hb1)
  have hs1 := hb1.size
  have d0 := HR1.out.c0
  have d1 := HR1.out.c1
  have HXR : Hid (Rd w1.drew la t X) := HRA.out _ (HRD1.out.below (Below.refl _ _).drew)
  clear hb1 HC c2
  go_wp2_with fail
  go_region_held_law (fun V => V.cell? ⟨g, 0, none⟩ = some (.slice a n c) ∧ V.cell? ⟨g, 1, none⟩ = some (.int .i64 (p : Int))) (first | go_keep | exact E8.out) (first
    | (refine step_join_d rfl (.tmp 27) (.tmp 42) rfl 43 rfl w1.heap.size (.slice none 0 0) [] (by simp [Act.eval]) (own_none _ _) la t cc X (by simp [Act.eval]) HXR.out HRZ.out (by simp; omega) (by simp) ?_; intro v6 w6 ho hg6; rw [List.nil_append] at ho; obtain ⟨xa, xn, xc, rfl, HXN⟩ := Lz.own_named ho; have hb6 : Below w1.heap.size w1 w6 := ((Below.refl _ _).drew).grown hg6 (by simp) (fun i e => by cases e); have HO6 := hide ho; have HB6 := hide hb6; have E8 := hide (And.intro (HR1.out.below hb6).c0 (HR1.out.below hb6).c1); clear ho hg6 hb6))
  have HR6 := hide (HR1.out.below HB6.out)
  have y1 := HR6.out.c1
  have x1 := HR6.out.fr 1
  clear d0 d1 E8 hsa
  go_wp2_with fail
  go_ret
  have hg6 : w.grownBy (w6.setCell ⟨g, 1, none⟩ (.int .i64 (q : Int))) (some g) := grown_cell (grown_any (below_grown (below_trans HB.out HB6.out)) (some g)) 1 _
  have hgl := HROW.out.lt
  refine ⟨⟨_, rfl, ?_⟩, hg6, HR6.out.put1 _, ?_⟩
  · exact (Base.keep HO6.out (grown_cell (World.grownBy.refl _ _) 1 _) (fun i j e1 e2 e => by have h1 := (blk HO6.out i e1).1; have h2 := Option.some.inj e2; omega)).mono (by omega)
  · exact (HRD1.out.below HB6.out).grown (r := some g) (grown_cell (World.grownBy.refl _ _) 1 _) (fun ad e e2 => (HAD.out ad e).1 (Option.some.inj e2).symm)
/-- How a cursor stands behind a reading of r (how many bytes, the error). -/
def stepS (L : List (BitVec 8)) (p : Nat) (er : Int) (r : Nat × Nat) : List (BitVec 8) × Nat × Int := if er ≠ 0 then (L, p, er) else if r.2 = 0 then (L.drop r.1, p + r.1, 0) else ([], p, (r.2 : Int))
theorem stepS_dead (L : List (BitVec 8)) (p : Nat) (er : Int) (r : Nat × Nat) (h : er ≠ 0) : stepS L p er r = (L, p, er) := if_pos h
theorem stepS_ok (L : List (BitVec 8)) (p k : Nat) : stepS L p 0 (k, 0) = (L.drop k, p + k, 0) := by unfold stepS; rw [if_neg (by simp), if_pos rfl]
theorem stepS_bad (L : List (BitVec 8)) (p k e : Nat) (h : e ≠ 0) : stepS L p 0 (k, e) = ([], p, (e : Int)) := by unfold stepS; rw [if_neg (by simp), if_neg h]
/-- The document's cursor, failed or not. -/
def Rz (w : World) (g D : Nat) (s : List (BitVec 8) × Nat × Int) : Prop := (s.2.2 = 0 ∧ ReA w g D s.1 s.2.1) ∨ (s.2.2 ≠ 0 ∧ s.1 = [] ∧ ReD w g s.2.1 s.2.2)
theorem Rz.row {w : World} {g D : Nat} {s : List (BitVec 8) × Nat × Int} (h : Rz w g D s) : ∃ v at' f er wa, Row5 w g v at' f er wa := by
  rcases h with ⟨_, a, n, c, bs, q1, _⟩ | ⟨_, _, a, n, c, at', q1, _⟩
  · exact ⟨_, _, _, _, _, q1⟩
  · exact ⟨_, _, _, _, _, q1⟩
theorem rz_num (g D : Nat) (s : List (BitVec 8) × Nat × Int) (k : Int) (w : World) (h : Rz w g D s) : Calls Try.prog 47 #[.pointer (some ⟨g, 0, none⟩), .int .i64 k] w fun e w' => e = .returned (.int .i64 ((if s.2.2 ≠ 0 then 0 else (atMost s.1 k).1 : Nat) : Int)) ∧ w.grownBy w' (some g) ∧ Rz w' g D (stepS s.1 s.2.1 s.2.2 (atMost s.1 k).2) := by
  obtain ⟨L, p, er⟩ := s
  rcases h with ⟨he, h⟩ | ⟨he, hL, h⟩
  · simp only at he h
    subst he
    refine (rnum_any g D p L k w h).mono ?_
    rintro e w' ⟨rfl, hg, hc⟩
    refine ⟨by simp, hg, ?_⟩
    simp only
    by_cases h0 : (atMost L k).2.2 = 0
    · rw [if_pos h0] at hc
      rw [show (atMost L k).2 = ((atMost L k).2.1, 0) from Prod.ext rfl h0, stepS_ok]
      exact .inl ⟨rfl, hc⟩
    · rw [if_neg h0] at hc
      rw [show (atMost L k).2 = ((atMost L k).2.1, (atMost L k).2.2) from rfl, stepS_bad _ _ _ _ h0]
      exact .inr ⟨by simp only; omega, rfl, hc⟩
  · simp only at he hL h
    obtain ⟨a, n, c, at', hr, h0⟩ := h
    refine (rnum_dead g _ at' er (p : Int) k w hr).mono ?_
    rintro e w' ⟨rfl, rfl⟩
    refine ⟨by simp [he], World.grownBy.refl _ _, ?_⟩
    simp only
    rw [stepS_dead _ _ _ _ he]
    exact .inr ⟨he, hL, a, n, c, at', hr, h0⟩
theorem rz_take (g D : Nat) (s : List (BitVec 8) × Nat × Int) (k : Int) (w : World) (h : Rz w g D s) : Calls Try.prog 52 #[.pointer (some ⟨g, 0, none⟩), .int .i64 k] w fun e w' => (∃ v, e = .returned v ∧ Own w' w.heap.size v (if s.2.2 ≠ 0 then [] else s.1.take (takeAt s.1 k).1)) ∧ w.grownBy w' (some g) ∧ Rz w' g D (stepS s.1 s.2.1 s.2.2 (takeAt s.1 k)) := by
  obtain ⟨L, p, er⟩ := s
  rcases h with ⟨he, h⟩ | ⟨he, hL, h⟩
  · simp only at he h
    subst he
    obtain ⟨a, n, c, bs, hrow, hrd, hsl, hp, hL, had⟩ := h
    obtain ⟨m, hm⟩ : ∃ m, p + m = n := ⟨n - p, by omega⟩
    have hLm : L.length = m := by rw [hL, List.length_drop, hrd.1]; omega
    simp only [ne_eq, not_true_eq_false, if_false]
    by_cases hk : k < 0
    · have hE : takeAt L k = (0, 23) := by unfold takeAt; rw [if_pos hk]
      refine (rtake_neg g _ (p : Int) k w hrow hk).mono ?_
      rintro e w' ⟨rfl, hg, hr⟩
      rw [hE, stepS_bad _ _ _ _ (by decide)]
      exact ⟨⟨_, rfl, own_none _ _⟩, hg, .inr ⟨by simp, rfl, _, _, _, _, hr, by simp⟩⟩
    · by_cases hl : (m : Int) < k
      · have hE : takeAt L k = (0, 20) := by unfold takeAt; rw [if_neg hk, if_pos (by rw [hLm]; exact hl)]
        refine (rtake_short g p n c m a k w hrow hm hrd.2.1 hl).mono ?_
        rintro e w' ⟨rfl, hg, hr⟩
        rw [hE, stepS_bad _ _ _ _ (by decide)]
        exact ⟨⟨_, rfl, own_none _ _⟩, hg, .inr ⟨by simp, rfl, _, _, _, _, hr, by simp⟩⟩
      · obtain ⟨t, rfl⟩ := Int.eq_ofNat_of_zero_le (by omega : 0 ≤ k)
        have hE : takeAt L (t : Int) = (t, 0) := by unfold takeAt; rw [if_neg (by omega), if_neg (by rw [hLm]; exact hl), Int.toNat_natCast]
        refine (rtake_ok g p n c m t a bs w hrow hrd hsl hm (fun ad e => ⟨(had ad e).1, Nat.lt_of_lt_of_le (had ad e).2.1 (had ad e).2.2⟩) (by omega)).mono ?_
        rintro e w' ⟨⟨v, rfl, hv⟩, hg, hr, hd⟩
        rw [hE, stepS_ok, hL]
        refine ⟨⟨v, rfl, hv⟩, hg, .inl ⟨rfl, a, n, c, bs, hr, hd, hsl, by simp only; omega, by simp only [List.drop_drop], fun ad e => ⟨(had ad e).1, (had ad e).2.1, Nat.le_trans (had ad e).2.2 hg.size⟩⟩⟩
  · simp only at he hL h
    obtain ⟨a, n, c, at', hr, h0⟩ := h
    refine (rtake_dead g _ at' er (p : Int) k w hr).mono ?_
    rintro e w' ⟨rfl, rfl⟩
    simp only [ne_eq, he, not_false_eq_true, if_true]
    rw [stepS_dead _ _ _ _ he]
    exact ⟨⟨_, rfl, own_none _ _⟩, World.grownBy.refl _ _, .inr ⟨he, hL, a, n, c, at', hr, h0⟩⟩
end Go.Proofs.Ytcchknpgkcmneaa.Curs
