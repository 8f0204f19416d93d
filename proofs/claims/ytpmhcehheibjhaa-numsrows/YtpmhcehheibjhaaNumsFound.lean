/-
  What a cursor tells of an item that stands at its head.
-/
import Derived.Test.YtpmhcehheibjhaaNumsLaid
import Derived.Deep.RegionHeld
namespace Go.Proofs.Ytpmhcehheibjhaa.Curs
open Go.ChangeShapes Go.WideShapes Go.ChangeAt Go.RowKit
open Go.Proofs.Ytpmhcehheibjhaa.Base Go.Proofs.Ytpmhcehheibjhaa.Nums
set_option linter.unusedVariables false
theorem Cur.lt {w : World} {g p : Nat} {L : List (BitVec 8)} (h : Cur w g L p) : g < w.heap.size := by obtain ⟨a, c, hr, _⟩ := h; exact hr.lt
theorem Cur.grown {w w' : World} {g p : Nat} {L : List (BitVec 8)} {r : Option Nat} (h : Cur w g L p) (hg : w.grownBy w' r) (h1 : r ≠ some g) (h2 : ∀ i, r = some i → w.heap.size ≤ i ∨ i = g) : Cur w' g L p := by
  obtain ⟨a, c, hrow, hrd, q1, q2, q3, q4, q5, q6⟩ := h
  refine ⟨a, c, hrow.grown hg h1, hrd.grown hg (fun ad e e2 => ?_), q1, q2, q3, q4, Nat.lt_of_lt_of_le q5 hg.size, q6⟩
  cases e
  rcases h2 _ e2 with h | h
  · omega
  · exact h1 (by rw [e2, h])
theorem Cur.below {w w' : World} {g p : Nat} {L : List (BitVec 8)} (h : Cur w g L p) (hb : Below w.heap.size w w') : Cur w' g L p := h.grown (below_grown hb) (by simp) (fun i e => by cases e)
theorem grown_pre {w0 w w' : World} {r : Option Nat} (hb : Below w0.heap.size w0 w) (h : w.grownBy w' r) : w0.grownBy w' r :=
  ⟨h.os.trans hb.os, h.tape.trans hb.tape, h.output.trans hb.output, Nat.le_trans hb.size h.size, fun i hi hp => (h.block i (Nat.lt_of_lt_of_le hi hb.size) hp).trans (hb.block i hi)⟩
theorem grown_drew' {w w' : World} {r : Option Nat} (h : w.grownBy w' r) : w.grownBy w'.drew r := ⟨h.os, h.tape, h.output, h.size, h.block⟩
theorem Cur.drew {w : World} {g p : Nat} {L : List (BitVec 8)} (h : Cur w g L p) : Cur w.drew g L p := h
/-- What 'found' leaves. -/
def Founds (w : World) (g : Nat) (rest : List (BitVec 8)) (p : Nat) (e : Ending) (w' : World) : Prop := e = .returned (.bool true) ∧ Cur w' g rest p ∧ w.grownBy w' (some g)
set_option maxHeartbeats 1000000 in
set_option maxRecDepth 100000 in
theorem found0 (x : Itm) (g p : Nat) (rest : List (BitVec 8)) (w : World) (hk : x.kind = 0) (hok : x.ok) (hv : x.v ≤ 9223372036854775807) (hc : Cur w g (layB x ++ rest) p) :
    Calls Try.prog 19 #[.pointer (some ⟨g, 0, none⟩), .agg #[.int .i64 x.kind, .int .i64 x.v, .int .i64 x.n, .string x.s]] w fun e w' => Founds w g rest (p + (layB x).length) e w' := by
  have HBW : Hid (Below w.heap.size w (w.alloc (.cells #[.int .i64 x.kind, .int .i64 x.v, .int .i64 x.n, .string x.s] 39))) := (Below.refl _ _).alloc (Nat.le_refl _) _
  have HT := hide (IRow.new w x)
  have hglt := hc.lt
  have hok' : ¬ x.v < 0 := fun h => hok (.inr (.inr (.inl ⟨hk, h⟩)))
  obtain ⟨k, v, n, s⟩ := x
  simp only at hk hok'
  subst hk
  simp only at hv HT HBW ⊢
  obtain ⟨m, rfl⟩ := Int.eq_ofNat_of_zero_le (by omega : 0 ≤ v)
  have HLB : Hid (layB ⟨0, (m : Int), n, s⟩ = put m) := by show _ = _; unfold layB; simp
  rw [HLB.out] at hc ⊢
  have HNUM : Hid (∀ V, Below w.heap.size w V → Calls Try.prog 21 #[.pointer (some ⟨g, 0, none⟩), .int .i64 (m : Int)] V fun e w' => e = .returned (.int .i64 (m : Int)) ∧ V.grownBy w' (some g) ∧ Cur w' g rest (p + (put m).length)) := by
    intro V hV
    refine (num_any g p (put m ++ rest) (m : Int) V (hc.below hV)).mono ?_
    rintro e w' ⟨rfl, hg, hcur⟩
    rw [atMost_put m rest _ (by omega) (by omega)] at hcur ⊢
    simp only [if_true, List.drop_left] at hcur
    exact ⟨rfl, hg, hcur⟩
  have k1 := HT.out.c1
  have hbe : ((m : Int) == (m : Int)) = true := by simp
  clear hc hok
  go_enter Try.func19, Try.ntmps19
  go_wp2_with fail
  go_region_held (fun V => V.cell? ⟨w.heap.size, 1, none⟩ = some (.int .i64 (m : Int))) (go_keep) (first
    | (go_at_call 21; refine (HNUM.out _ (by first | exact HBW.out | exact HBW.out.drew | exact HBW.out.drew.drew)).mono ?_; rintro e w2 ⟨rfl, hg2, hc2⟩; have HG2 := hide hg2; have HC2 := hide hc2; have a1 : w2.cell? ⟨w.heap.size, 1, none⟩ = some (.int .i64 (m : Int)) := hg2.cell (by first | exact k1 | assumption) (fun e => by have e3 : w.heap.size = g := Option.some.inj e; omega); clear hg2 hc2))
  all_goals
    go_wp2_with fail
    go_ret
    exact ⟨rfl, HC2.out, grown_pre (by first | exact HBW.out | exact HBW.out.drew) HG2.out⟩
set_option maxHeartbeats 1000000 in
set_option maxRecDepth 100000 in
theorem found3 (x : Itm) (g p : Nat) (rest : List (BitVec 8)) (w : World) (hk : x.kind = 3) (hok : x.ok) (hs : x.s.size ≤ 2147483647) (hc : Cur w g (layB x ++ rest) p) :
    Calls Try.prog 19 #[.pointer (some ⟨g, 0, none⟩), .agg #[.int .i64 x.kind, .int .i64 x.v, .int .i64 x.n, .string x.s]] w fun e w' => Founds w g rest (p + (layB x).length) e w' := by
  have HBW : Hid (Below w.heap.size w (w.alloc (.cells #[.int .i64 x.kind, .int .i64 x.v, .int .i64 x.n, .string x.s] 39))) := (Below.refl _ _).alloc (Nat.le_refl _) _
  have HT := hide (IRow.new w x)
  have hglt := hc.lt
  obtain ⟨k, v, n, s⟩ := x
  simp only at hk
  subst hk
  simp only at hs HT HBW  ⊢
  have HLB : Hid (layB ⟨3, v, n, s⟩ = put (txtB s).length ++ txtB s) := by show _ = _; unfold layB; rw [length_txtB]; simp
  rw [HLB.out] at hc ⊢
  have HTX : Hid (∀ V, Below w.heap.size w V → Calls Try.prog 41 #[.pointer (some ⟨g, 0, none⟩), .int .i64 (s.size : Int)] V fun e w' => e = .returned (.string s) ∧ V.grownBy w' (some g) ∧ Cur w' g rest (p + (put (txtB s).length ++ txtB s).length)) := by
    intro V hV
    have h0 := text_any g p (put (txtB s).length ++ txtB s ++ rest) (s.size : Int) V (hc.below hV)
    have e0 := textAt_app (txtB s) rest (by rw [length_txtB]; omega)
    rw [length_txtB, ← List.append_assoc] at e0
    rw [length_txtB] at h0 ⊢
    refine h0.mono ?_
    rintro e w' ⟨rfl, hg, hcur⟩
    rw [e0] at hcur ⊢
    simp only [if_true] at hcur ⊢
    rw [str_txt]
    have e1 : (put s.size ++ txtB s ++ rest).drop ((put s.size).length + s.size) = rest := by
      have : (put s.size).length + s.size = (put s.size ++ txtB s).length := by rw [List.length_append, length_txtB]
      rw [this, List.drop_left]
    rw [e1] at hcur
    refine ⟨rfl, hg, ?_⟩
    rw [List.length_append, length_txtB]; exact hcur
  have k3 := HT.out.c3
  have hsi : (s.size : Int) ≤ 2147483647 := by omega
  clear hc hok
  go_enter Try.func19, Try.ntmps19
  go_wp2_with fail
  go_region_held (fun V => V.cell? ⟨w.heap.size, 3, none⟩ = some (.string s)) (go_keep) (first
    | (go_at_call 41; refine (HTX.out _ (by first | exact HBW.out | exact HBW.out.drew | exact HBW.out.drew.drew)).mono ?_; rintro e w2 ⟨rfl, hg2, hc2⟩; have HG2 := hide hg2; have HC2 := hide hc2; have a1 : w2.cell? ⟨w.heap.size, 3, none⟩ = some (.string s) := hg2.cell (by first | exact k3 | assumption) (fun e => by have e3 : w.heap.size = g := Option.some.inj e; omega); clear hg2 hc2))
  all_goals
    go_wp2_with fail
    go_ret
    exact ⟨by first | rfl | simp, HC2.out, grown_pre (by first | exact HBW.out | exact HBW.out.drew) HG2.out⟩
set_option maxHeartbeats 1000000 in
set_option maxRecDepth 100000 in
theorem found2 (x : Itm) (g p : Nat) (rest : List (BitVec 8)) (w : World) (hk : x.kind = 2) (hok : x.ok) (hs : x.s.size ≤ 2147483647) (hc : Cur w g (layB x ++ rest) p) :
    Calls Try.prog 19 #[.pointer (some ⟨g, 0, none⟩), .agg #[.int .i64 x.kind, .int .i64 x.v, .int .i64 x.n, .string x.s]] w fun e w' => Founds w g rest (p + (layB x).length) e w' := by
  have HBW : Hid (Below w.heap.size w (w.alloc (.cells #[.int .i64 x.kind, .int .i64 x.v, .int .i64 x.n, .string x.s] 39))) := (Below.refl _ _).alloc (Nat.le_refl _) _
  have HT := hide (IRow.new w x)
  have hglt := hc.lt
  obtain ⟨k, v, n, s⟩ := x
  simp only at hk
  subst hk
  simp only at hs HT HBW  ⊢
  have HLB : Hid (layB ⟨2, v, n, s⟩ = txtB s) := by show _ = _; unfold layB; simp
  rw [HLB.out] at hc ⊢
  have HTK : Hid (∀ V, Below w.heap.size w V → Calls Try.prog 40 #[.pointer (some ⟨g, 0, none⟩), .int .i64 (s.size : Int)] V fun e w' => ∃ a n c, e = .returned (.slice a n c) ∧ (convert 22 9 (.slice a n c)).run Try.prog w' = .ok (.string s) w' ∧ V.grownBy w' (some g) ∧ Cur w' g rest (p + (txtB s).length)) := by
    intro V hV
    refine (take_any g p (txtB s ++ rest) (s.size : Int) V (hc.below hV)).mono ?_
    have e0 := takeAt_app (txtB s) rest
    rw [length_txtB] at e0
    rintro e w' ⟨⟨u, rfl, ho⟩, hg, hcur⟩
    rw [e0] at hcur ho
    simp only [if_true] at hcur ho
    have e1 : (txtB s ++ rest).drop s.size = rest := by rw [← length_txtB s, List.drop_left]
    have e2 : (txtB s ++ rest).take s.size = txtB s := by rw [← length_txtB s, List.take_left]
    rw [e1] at hcur
    rw [e2] at ho
    obtain ⟨a, c, rfl⟩ := ho.shape
    refine ⟨a, _, c, rfl, ?_, hg, by rw [length_txtB]; exact hcur⟩
    cases a with
    | none =>
      have h1 := Got.nil ho rfl
      have h2 : txtB s = [] := List.length_eq_zero_iff.1 h1.1
      have h3 := run_convert_bytes_nil (P := Try.prog) w' 22 5 Try.underlying22 Try.underlying5 (txtB s).length c 9 Try.underlying9
      rw [h3]
      have h4 := str_txt s
      rw [h2] at h4
      rw [← h4]; rfl
    | some ad =>
      have h3 := conv_str (c := c) (Got.rd ho (by rw [length_txtB]; omega))
      rw [str_txt] at h3
      exact h3
  have k3 := HT.out.c3
  have hsi : (s.size : Int) ≤ 2147483647 := by omega
  clear hc hok
  go_enter Try.func19, Try.ntmps19
  go_wp2_with fail
  go_region_held (fun V => V.cell? ⟨w.heap.size, 3, none⟩ = some (.string s)) (go_keep) (first
    | (go_at_call 40; refine (HTK.out _ (by first | exact HBW.out | exact HBW.out.drew | exact HBW.out.drew.drew)).mono ?_; rintro e w2 ⟨ta, tn, tc, rfl, hcv2, hg2, hc2⟩; have HG2 := hide hg2; have HC2 := hide hc2; have a1 : w2.cell? ⟨w.heap.size, 3, none⟩ = some (.string s) := hg2.cell (by first | exact k3 | assumption) (fun e => by have e3 : w.heap.size = g := Option.some.inj e; omega); clear hg2 hc2))
  all_goals
    go_wp2_with fail
    go_ret
    exact ⟨by first | rfl | simp, HC2.out, grown_pre (by first | exact HBW.out | exact HBW.out.drew) HG2.out⟩
set_option maxHeartbeats 1000000 in
set_option maxRecDepth 100000 in
theorem found1 (x : Itm) (g p : Nat) (rest : List (BitVec 8)) (w : World) (hk : x.kind = 1) (hok : x.ok) (hs : x.s.size ≤ 2147483647) (hc : Cur w g (layB x ++ rest) p) :
    Calls Try.prog 19 #[.pointer (some ⟨g, 0, none⟩), .agg #[.int .i64 x.kind, .int .i64 x.v, .int .i64 x.n, .string x.s]] w fun e w' => Founds w g rest (p + (layB x).length) e w' := by
  have HBW : Hid (Below w.heap.size w (w.alloc (.cells #[.int .i64 x.kind, .int .i64 x.v, .int .i64 x.n, .string x.s] 39))) := (Below.refl _ _).alloc (Nat.le_refl _) _
  have HT := hide (IRow.new w x)
  have hglt := hc.lt
  have hok' : ¬ (x.n < 1 ∨ 8 < x.n) := fun h => hok (.inr (.inr (.inr ⟨hk, h⟩)))
  obtain ⟨k, v, n, s⟩ := x
  simp only at hk
  subst hk
  simp only at hs HT HBW hok' ⊢
  obtain ⟨m, rfl⟩ := Int.eq_ofNat_of_zero_le (by omega : 0 ≤ n)
  have HLB : Hid (layB ⟨1, v, (m : Int), s⟩ = fixed (u64 v) m) := by show _ = _; unfold layB; simp
  rw [HLB.out] at hc ⊢
  have hm1 : 1 ≤ m := by omega
  have hm8 : m ≤ 8 := by omega
  have hu := u64_int v
  have hul := u64_lt v
  generalize u64 v = V0 at hu hul hc
  have HFX : Hid (∀ V, Below w.heap.size w V → Calls Try.prog 39 #[.pointer (some ⟨g, 0, none⟩), .int .i64 (m : Int)] V fun e w' => e = .returned (.int .u64 ((V0 % 256 ^ m : Nat) : Int)) ∧ V.grownBy w' (some g) ∧ Cur w' g rest (p + (fixed V0 m).length)) := by
    intro V hV
    refine (fixedC_any g p (fixed V0 m ++ rest) (m : Int) V (hc.below hV)).mono ?_
    rintro e w' ⟨rfl, hg, hcur⟩
    rw [fixAt_fixed V0 m rest hm1 hm8] at hcur ⊢
    simp only [if_true] at hcur ⊢
    have e1 : (fixed V0 m ++ rest).drop m = rest := by
      have h := List.drop_left (l₁ := fixed V0 m) (l₂ := rest)
      rw [length_fixed] at h; exact h
    rw [e1] at hcur
    exact ⟨by first | rfl | trivial, hg, by rw [length_fixed]; exact hcur⟩
  have k1 := HT.out.c1
  have k2 := HT.out.c2
  clear hc hok hok'
  have HV0 := hide hul
  have hVi : (V0 : Int) ≤ 18446744073709551615 := by omega
  obtain ⟨R, hR⟩ : ∃ R : Nat, V0 % 256 ^ m = R := ⟨_, rfl⟩
  rw [hR] at HFX
  have hbe : ((R : Int) == (R : Int)) = true := by simp
  rcases (show m = 8 ∨ m = 1 ∨ m = 2 ∨ m = 3 ∨ m = 4 ∨ m = 5 ∨ m = 6 ∨ m = 7 by omega) with rfl | rfl | rfl | rfl | rfl | rfl | rfl | rfl
  · have hR1 : V0 % 18446744073709551616 = R := hR
    have hR2 : (V0 : Int) = (R : Int) := by have := HV0.out; omega
    clear hR hR1 hm1 hm8 hul
    go_enter Try.func19, Try.ntmps19
    go_wp2_with fail
    refine (HFX.out _ HBW.out).mono ?_
    rintro e w2 ⟨rfl, hg2, hc2⟩
    have HG2 := hide hg2
    have HC2 := hide hc2
    clear hg2 hc2
    go_wp2_with fail
    go_ret
    exact ⟨by first | rfl | simp, HC2.out, grown_pre HBW.out HG2.out⟩
  · have hR1 : V0 % 256 = R := hR
    have hR2 : (V0 : Int) % 256 = (R : Int) := by have := HV0.out; omega
    clear hR hR1 hm1 hm8 hul
    go_enter Try.func19, Try.ntmps19
    go_wp2_with fail
    refine (HFX.out _ HBW.out).mono ?_
    rintro e w2 ⟨rfl, hg2, hc2⟩
    have HG2 := hide hg2
    have HC2 := hide hc2
    clear hg2 hc2
    go_wp2_with fail
    go_ret
    exact ⟨by first | rfl | simp, HC2.out, grown_pre HBW.out HG2.out⟩
  · have hR1 : V0 % 65536 = R := hR
    have hR2 : (V0 : Int) % 65536 = (R : Int) := by have := HV0.out; omega
    clear hR hR1 hm1 hm8 hul
    go_enter Try.func19, Try.ntmps19
    go_wp2_with fail
    refine (HFX.out _ HBW.out).mono ?_
    rintro e w2 ⟨rfl, hg2, hc2⟩
    have HG2 := hide hg2
    have HC2 := hide hc2
    clear hg2 hc2
    go_wp2_with fail
    go_ret
    exact ⟨by first | rfl | simp, HC2.out, grown_pre HBW.out HG2.out⟩
  · have hR1 : V0 % 16777216 = R := hR
    have hR2 : (V0 : Int) % 16777216 = (R : Int) := by have := HV0.out; omega
    clear hR hR1 hm1 hm8 hul
    go_enter Try.func19, Try.ntmps19
    go_wp2_with fail
    refine (HFX.out _ HBW.out).mono ?_
    rintro e w2 ⟨rfl, hg2, hc2⟩
    have HG2 := hide hg2
    have HC2 := hide hc2
    clear hg2 hc2
    go_wp2_with fail
    go_ret
    exact ⟨by first | rfl | simp, HC2.out, grown_pre HBW.out HG2.out⟩
  · have hR1 : V0 % 4294967296 = R := hR
    have hR2 : (V0 : Int) % 4294967296 = (R : Int) := by have := HV0.out; omega
    clear hR hR1 hm1 hm8 hul
    go_enter Try.func19, Try.ntmps19
    go_wp2_with fail
    refine (HFX.out _ HBW.out).mono ?_
    rintro e w2 ⟨rfl, hg2, hc2⟩
    have HG2 := hide hg2
    have HC2 := hide hc2
    clear hg2 hc2
    go_wp2_with fail
    go_ret
    exact ⟨by first | rfl | simp, HC2.out, grown_pre HBW.out HG2.out⟩
  · have hR1 : V0 % 1099511627776 = R := hR
    have hR2 : (V0 : Int) % 1099511627776 = (R : Int) := by have := HV0.out; omega
    clear hR hR1 hm1 hm8 hul
    go_enter Try.func19, Try.ntmps19
    go_wp2_with fail
    refine (HFX.out _ HBW.out).mono ?_
    rintro e w2 ⟨rfl, hg2, hc2⟩
    have HG2 := hide hg2
    have HC2 := hide hc2
    clear hg2 hc2
    go_wp2_with fail
    go_ret
    exact ⟨by first | rfl | simp, HC2.out, grown_pre HBW.out HG2.out⟩
  · have hR1 : V0 % 281474976710656 = R := hR
    have hR2 : (V0 : Int) % 281474976710656 = (R : Int) := by have := HV0.out; omega
    clear hR hR1 hm1 hm8 hul
    go_enter Try.func19, Try.ntmps19
    go_wp2_with fail
    refine (HFX.out _ HBW.out).mono ?_
    rintro e w2 ⟨rfl, hg2, hc2⟩
    have HG2 := hide hg2
    have HC2 := hide hc2
    clear hg2 hc2
    go_wp2_with fail
    go_ret
    exact ⟨by first | rfl | simp, HC2.out, grown_pre HBW.out HG2.out⟩
  · have hR1 : V0 % 72057594037927936 = R := hR
    have hR2 : (V0 : Int) % 72057594037927936 = (R : Int) := by have := HV0.out; omega
    clear hR hR1 hm1 hm8 hul
    go_enter Try.func19, Try.ntmps19
    go_wp2_with fail
    refine (HFX.out _ HBW.out).mono ?_
    rintro e w2 ⟨rfl, hg2, hc2⟩
    have HG2 := hide hg2
    have HC2 := hide hc2
    clear hg2 hc2
    go_wp2_with fail
    go_ret
    exact ⟨by first | rfl | simp, HC2.out, grown_pre HBW.out HG2.out⟩
end Go.Proofs.Ytpmhcehheibjhaa.Curs
