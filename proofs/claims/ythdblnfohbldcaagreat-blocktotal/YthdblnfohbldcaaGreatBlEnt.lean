/-
  The bytes of an entry.
-/
import Derived.Test.YthdblnfohbldcaaGreatNumsPutC
import Derived.Test.YthdblnfohbldcaaGreatBase2
import Derived.Lib.AppendStr
import Derived.Deep.DeepCutAuto
namespace Go.Proofs.YthdblnfohbldcaaGreat.Bl
open Go.ChangeShapes Go.WideShapes Go.ChangeAt Go.RowKit
open Go.Proofs.YthdblnfohbldcaaGreat.Base Go.Proofs.YthdblnfohbldcaaGreat.Nums
set_option linter.unusedVariables false
/-- A text's bytes. -/
def btx (s : ByteArray) : List (BitVec 8) := s.data.toList.map UInt8.toBitVec
theorem btx_len (s : ByteArray) : (btx s).length = s.size := by simp [btx]
theorem strCells_btx (s : ByteArray) : Lib.strCells s = vals (btx s) := by
  unfold Lib.strCells btx vals V8
  rw [List.map_map]
  rfl
/-- An entry whose key has c bytes in common with the key ahead of it. -/
def entL (c : Nat) (key value : ByteArray) : List (BitVec 8) := put c ++ put (key.size - c) ++ put value.size ++ btx (key.extract c key.size) ++ btx value
def putsE (c r v : Nat) : Nat → List (BitVec 8)
  | 0 => []
  | 1 => put c
  | 2 => put c ++ put r
  | _ => put c ++ put r ++ put v
theorem put9 (v : Nat) (h : v ≤ 1048576) : (put v).length ≤ 9 := (put_nine v (by omega)).2
theorem puts_len (c r v k : Nat) (hc : c ≤ 1048576) (hr : r ≤ 1048576) (hv : v ≤ 1048576) : (putsE c r v k).length ≤ 27 := by
  have h1 := put9 c hc
  have h2 := put9 r hr
  have h3 := put9 v hv
  match k with
  | 0 => simp [putsE]
  | 1 => simp only [putsE]; omega
  | 2 => simp only [putsE, List.length_append]; omega
  | k + 3 => simp only [putsE, List.length_append]; omega
theorem index3 (c r v : Nat) (W : World) : (Instr.index 170 (.agg #[.int .i64 (c : Int), .int .i64 (r : Int), .int .i64 (v : Int)]) (.int .i64 0)).run Tryz.prog W = .ok (.int .i64 (c : Int)) W ∧ (Instr.index 170 (.agg #[.int .i64 (c : Int), .int .i64 (r : Int), .int .i64 (v : Int)]) (.int .i64 1)).run Tryz.prog W = .ok (.int .i64 (r : Int)) W ∧ (Instr.index 170 (.agg #[.int .i64 (c : Int), .int .i64 (r : Int), .int .i64 (v : Int)]) (.int .i64 2)).run Tryz.prog W = .ok (.int .i64 (v : Int)) W :=
  ⟨by kernel_rfl, by kernel_rfl, by kernel_rfl⟩
theorem wf_nat (u : Nat) (h : u ≤ 1048576) : (Lit.int .i64 (u : Int)).wf = true := by
  have h0 : IntKind.i64.min = -9223372036854775808 := by rfl
  have h1 : IntKind.i64.min ≤ (u : Int) := by rw [h0]; omega
  have h2 : (u : Int) ≤ 9223372036854775807 := by omega
  simpa [Lit.wf] using And.intro h1 h2
set_option maxHeartbeats 2000000 in
set_option maxRecDepth 100000 in
theorem entry_any (c : Nat) (key value : ByteArray) (w : World) (hc : c ≤ key.size) (hk : key.size ≤ 1048576) (hv : value.size ≤ 1048576) :
    Calls Tryz.prog 62 #[.int .i64 (c : Int), .string key, .string value] w fun e w' => ∃ v, e = .returned v ∧ Own w' w.heap.size v (entL c key value) ∧ Below w.heap.size w w' := by
  obtain ⟨rest, hrest⟩ : ∃ r, key.extract c key.size = r := ⟨_, rfl⟩
  obtain ⟨r, hr⟩ : ∃ r, rest.size = r := ⟨_, rfl⟩
  have hrr : r = key.size - c := by rw [← hr, ← hrest, ByteArray.size_extract]; omega
  have hr6 : r ≤ 1048576 := by omega
  obtain ⟨v, hvv⟩ : ∃ v, value.size = v := ⟨_, rfl⟩
  have HE : Hid (entL c key value = putsE c r v 3 ++ btx rest ++ btx value) := by
    show _ = _
    unfold entL
    rw [hrest, ← hrr, hvv]
    rfl
  rw [HE.out]
  have hci : (c : Int) ≤ (key.size : Int) := by omega
  have HPL := hide (fun k => puts_len c r v k (by omega) hr6 (by omega))
  have HP : Hid (∀ (u : Nat) (W : World), u ≤ 1048576 → Calls Tryz.prog 94 #[.int .i64 (u : Int)] W fun e w' => ∃ v, e = .returned v ∧ Own w' W.heap.size v (put u) ∧ Below W.heap.size W w') := fun u W hu => by
    have h := put_any (u : Int) W (wf_nat u hu)
    rw [putI_nat] at h
    exact h
  have HR9 := hide hrr
  have HVV := hide hvv
  have HRL := hide hr
  clear HE hrr
  go_enter Tryz.func62, Tryz.ntmps62
  go_upto_region 4 with (fail)
  have hcr : c ≤ 1048576 := by omega
  have hvs : v ≤ 1048576 := by omega
  clear hvv
  go_loopw [8, 20] (fun s8 s20 wr => ∃ (k : Nat) (z : Int) (va : Option Addr) (vc : Nat), k ≤ 3 ∧ z = (k : Int) ∧ s20 = .int .i64 z ∧ s8 = .slice va (putsE c r v k).length vc ∧ Hid (Own wr w.heap.size (.slice va (putsE c r v k).length vc) (putsE c r v k)) ∧ Hid (Below w.heap.size w wr)) (fun _ s20 _ => 3 - (intOf s20).toNat)
  case atStart => exact ⟨0, 0, none, 0, by omega, rfl, rfl, rfl, own_none _ _, Below.refl _ _⟩
  case round =>
    obtain ⟨k, z, va, vc, hk3, hz, rfl, rfl, HO, HB⟩ := hrel
    by_cases hk : k < 3
    · have hk2 : k = 0 ∨ k = 1 ∨ k = 2 := by omega
      rcases hk2 with rfl | rfl | rfl
      · obtain rfl : z = 0 := by omega
        clear hz hk hk3
        have hix : ∀ W, (Instr.index 170 (.agg #[.int .i64 (c : Int), .int .i64 (r : Int), .int .i64 (v : Int)]) (.int .i64 0)).run Tryz.prog W = .ok (.int .i64 (c : Int)) W := fun W => index3 c r v W |>.1
        go_wp2_with (first
          | (go_at_call 94; refine (HP.out c _ (by omega)).mono ?_; rintro e w1 ⟨v1, rfl, ho, hb⟩; obtain ⟨a1, c1, e1⟩ := ho.shape; subst e1; have HO1 := hide ho; have HBX := hide (below_trans HB.out hb); have HOW := hide (HO.out.below hb); have HS1 := hide hb.size; clear ho hb)
          | (at_builtin; refine join _ rfl _ _ rfl w.heap.size _ (putsE c r v 0) rfl HOW.out a1 (put c).length c1 (put c) rfl (Got.rd HO1.out (by have := put9 c (by omega); omega)) (Got.nil HO1.out) (by have := HPL.out 0; have := put9 c (by omega); omega) (by have := HBX.out.size; omega) ?_; intro v2 w2 ho2 hg2; obtain ⟨a2, c2, e2⟩ := ho2.shape; subst e2; have HO2 := hide ho2; have HB2 := hide (HBX.out.grown hg2 HBX.out.size (fun i e => (blk HOW.out i e).1)); clear ho2 hg2))
        go_roundw
        case rel => exact ⟨0 + 1, 0 + 1, a2, c2, by omega, by omega, rfl, by rw [← List.length_append]; rfl, HO2.out, HB2.out⟩
        case measure => (simp [intOf] <;> omega)
      · obtain rfl : z = 1 := by omega
        clear hz hk hk3
        have hix : ∀ W, (Instr.index 170 (.agg #[.int .i64 (c : Int), .int .i64 (r : Int), .int .i64 (v : Int)]) (.int .i64 1)).run Tryz.prog W = .ok (.int .i64 (r : Int)) W := fun W => index3 c r v W |>.2.1
        go_wp2_with (first
          | (go_at_call 94; refine (HP.out r _ (by omega)).mono ?_; rintro e w1 ⟨v1, rfl, ho, hb⟩; obtain ⟨a1, c1, e1⟩ := ho.shape; subst e1; have HO1 := hide ho; have HBX := hide (below_trans HB.out hb); have HOW := hide (HO.out.below hb); have HS1 := hide hb.size; clear ho hb)
          | (at_builtin; refine join _ rfl _ _ rfl w.heap.size _ (putsE c r v 1) rfl HOW.out a1 (put r).length c1 (put r) rfl (Got.rd HO1.out (by have := put9 r (by omega); omega)) (Got.nil HO1.out) (by have := HPL.out 1; have := put9 r (by omega); omega) (by have := HBX.out.size; omega) ?_; intro v2 w2 ho2 hg2; obtain ⟨a2, c2, e2⟩ := ho2.shape; subst e2; have HO2 := hide ho2; have HB2 := hide (HBX.out.grown hg2 HBX.out.size (fun i e => (blk HOW.out i e).1)); clear ho2 hg2))
        go_roundw
        case rel => exact ⟨1 + 1, 1 + 1, a2, c2, by omega, by omega, rfl, by rw [← List.length_append]; rfl, HO2.out, HB2.out⟩
        case measure => (simp [intOf] <;> omega)
      · obtain rfl : z = 2 := by omega
        clear hz hk hk3
        have hix : ∀ W, (Instr.index 170 (.agg #[.int .i64 (c : Int), .int .i64 (r : Int), .int .i64 (v : Int)]) (.int .i64 2)).run Tryz.prog W = .ok (.int .i64 (v : Int)) W := fun W => index3 c r v W |>.2.2
        go_wp2_with (first
          | (go_at_call 94; refine (HP.out v _ (by omega)).mono ?_; rintro e w1 ⟨v1, rfl, ho, hb⟩; obtain ⟨a1, c1, e1⟩ := ho.shape; subst e1; have HO1 := hide ho; have HBX := hide (below_trans HB.out hb); have HOW := hide (HO.out.below hb); have HS1 := hide hb.size; clear ho hb)
          | (at_builtin; refine join _ rfl _ _ rfl w.heap.size _ (putsE c r v 2) rfl HOW.out a1 (put v).length c1 (put v) rfl (Got.rd HO1.out (by have := put9 v (by omega); omega)) (Got.nil HO1.out) (by have := HPL.out 2; have := put9 v (by omega); omega) (by have := HBX.out.size; omega) ?_; intro v2 w2 ho2 hg2; obtain ⟨a2, c2, e2⟩ := ho2.shape; subst e2; have HO2 := hide ho2; have HB2 := hide (HBX.out.grown hg2 HBX.out.size (fun i e => (blk HOW.out i e).1)); clear ho2 hg2))
        go_roundw
        case rel => exact ⟨2 + 1, 2 + 1, a2, c2, by omega, by omega, rfl, by rw [← List.length_append]; rfl, HO2.out, HB2.out⟩
        case measure => (simp [intOf] <;> omega)
    · obtain rfl : k = 3 := by omega
      obtain rfl : z = 3 := by omega
      clear hz hk hk3
      obtain ⟨i0, hi, hz0, hz1, hz2⟩ := info_parts info8
      have HL3 := hide (HPL.out 3)
      obtain ⟨P3, hP3⟩ : ∃ P, putsE c r v 3 = P := ⟨_, rfl⟩
      rw [hP3] at HO HL3 ⊢
      have HP3 := hide hP3
      clear hP3 HPL HP
      go_wp2_with (first
        | (at_builtin; have h := HO1; refine Lib.wpList_append_own_string (P := Tryz.prog) _ rfl _ _ 24 9 rfl w.heap.size 5 i0 Tryz.underlying24 Tryz.underlying9 hi hz0 hz1 hz2 (.slice a1 n1 c1) n1 (vals (P3 ++ btx rest)) rfl (by have q : w1.ownsRow w.heap.size 5 1 (.slice a1 n1 c1) (P3 ++ btx rest).length (vals (P3 ++ btx rest)) := HO1.out; rw [HN1.out] at q; exact q) value rfl (by have := HL3.out; have := HN1.out; have := HX1.out; unfold maxLen; omega) (by have := HL3.out; have := HN1.out; have := HX1.out; omega) HB1.out.size ?_; intro v2 w2 ho2 hg2 _; have HO2 : Hid (Own w2 w.heap.size v2 (P3 ++ btx rest ++ btx value)) := (by rw [strCells_btx] at ho2; exact own_append ho2 (by rw [btx_len, HN1.out])); have HB2 := hide (HB1.out.grown hg2 HB1.out.size (fun i e => (blk HO1.out i e).1)); clear ho2 hg2 h)
        | (at_builtin; refine Lib.wpList_append_own_string (P := Tryz.prog) _ rfl _ _ 24 9 rfl w.heap.size 5 i0 Tryz.underlying24 Tryz.underlying9 hi hz0 hz1 hz2 (.slice va P3.length vc) P3.length (vals P3) rfl HO.out rest rfl (by have := HL3.out; unfold maxLen; omega) (by have := HL3.out; omega) HB.out.size ?_; intro v1 w1 ho1 hg1 _; obtain ⟨a1, n1, c1, e1, hn1⟩ : ∃ a n c, v1 = .slice a n c ∧ n = P3.length + rest.size := (by obtain ⟨a, c, e⟩ := own_any_shape ho1; exact ⟨a, _, c, e, rfl⟩); subst e1; have HO1 : Hid (Own w1 w.heap.size (.slice a1 n1 c1) (P3 ++ btx rest)) := (by rw [strCells_btx] at ho1; exact own_append ho1 (by rw [btx_len])); have HN1 : Hid ((P3 ++ btx rest).length = n1) := (by show _ = _; rw [List.length_append, btx_len, hn1]); have HX1 : Hid (n1 = P3.length + rest.size) := hn1; have HB1 := hide (HB.out.grown hg1 HB.out.size (fun i e => (blk HO.out i e).1)); clear ho1 hg1 hn1))
      go_ret
      exact ⟨_, rfl, by rw [HP3.out]; exact HO2.out, HB2.out⟩
end Go.Proofs.YthdblnfohbldcaaGreat.Bl
