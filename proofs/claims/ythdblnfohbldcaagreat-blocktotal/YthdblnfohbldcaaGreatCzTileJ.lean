/-
  The bytes of an entry.
-/
import Derived.Test.YthdblnfohbldcaaGreatBlModJ
import Derived.Lib.AppendStr
import Derived.Deep.DeepCutAuto
import Derived.Test.YthdblnfohbldcaaGreatCrcTileMathJ
import Derived.Laws.CopyOwn
import Derived.Deep.RegionWith
namespace Go.Proofs.YthdblnfohbldcaaGreat.Bl
open Go.ChangeShapes Go.WideShapes Go.ChangeAt Go.RowKit
open Go.Proofs.YthdblnfohbldcaaGreat.Base Go.Proofs.YthdblnfohbldcaaGreat.Nums
set_option linter.unusedVariables false
/-- A text's bytes. -/
def btx (s : ByteArray) : List (BitVec 8) := s.data.toList.map UInt8.toBitVec
theorem btx_len (s : ByteArray) : (btx s).length = s.size := by simp [btx]
theorem strCells_btx (s : ByteArray) : Lib.strCells s = vals (btx s) := by
  unfold Lib.strCells btx vals V8
  rw [List.map_map]
  rfl
/-- An entry whose key has c bytes in common with the key ahead of it. -/
def entL (c : Nat) (key value : ByteArray) : List (BitVec 8) := put c ++ put (key.size - c) ++ put value.size ++ btx (key.extract c key.size) ++ btx value
def putsE (c r v : Nat) : Nat → List (BitVec 8)
  | 0 => []
  | 1 => put c
  | 2 => put c ++ put r
  | _ => put c ++ put r ++ put v
theorem put9 (v : Nat) (h : v ≤ 1048576) : (put v).length ≤ 9 := (put_nine v (by omega)).2
theorem puts_len (c r v k : Nat) (hc : c ≤ 1048576) (hr : r ≤ 1048576) (hv : v ≤ 1048576) : (putsE c r v k).length ≤ 27 := by
  have h1 := put9 c hc
  have h2 := put9 r hr
  have h3 := put9 v hv
  match k with
  | 0 => simp [putsE]
  | 1 => simp only [putsE]; omega
  | 2 => simp only [putsE, List.length_append]; omega
  | k + 3 => simp only [putsE, List.length_append]; omega
theorem index3 (c r v : Nat) (W : World) : (Instr.index 170 (.agg #[.int .i64 (c : Int), .int .i64 (r : Int), .int .i64 (v : Int)]) (.int .i64 0)).run Tryz.prog W = .ok (.int .i64 (c : Int)) W ∧ (Instr.index 170 (.agg #[.int .i64 (c : Int), .int .i64 (r : Int), .int .i64 (v : Int)]) (.int .i64 1)).run Tryz.prog W = .ok (.int .i64 (r : Int)) W ∧ (Instr.index 170 (.agg #[.int .i64 (c : Int), .int .i64 (r : Int), .int .i64 (v : Int)]) (.int .i64 2)).run Tryz.prog W = .ok (.int .i64 (v : Int)) W :=
  ⟨by kernel_rfl, by kernel_rfl, by kernel_rfl⟩
theorem wf_nat (u : Nat) (h : u ≤ 1048576) : (Lit.int .i64 (u : Int)).wf = true := by
  have h0 : IntKind.i64.min = -9223372036854775808 := by rfl
  have h1 : IntKind.i64.min ≤ (u : Int) := by rw [h0]; omega
  have h2 : (u : Int) ≤ 9223372036854775807 := by omega
  simpa [Lit.wf] using And.intro h1 h2
set_option maxHeartbeats 2000000 in
set_option maxRecDepth 100000 in
theorem entry_any (c : Nat) (key value : ByteArray) (w : World) (hc : c ≤ key.size) (hk : key.size ≤ 1048576) (hv : value.size ≤ 1048576) :
    Calls Tryz.prog 62 #[.int .i64 (c : Int), .string key, .string value] w fun e w' => ∃ v, e = .returned v ∧ Own w' w.heap.size v (entL c key value) ∧ Below w.heap.size w w' := by
  obtain ⟨rest, hrest⟩ : ∃ r, key.extract c key.size = r := ⟨_, rfl⟩
  obtain ⟨r, hr⟩ : ∃ r, rest.size = r := ⟨_, rfl⟩
  have hrr : r = key.size - c := by rw [← hr, ← hrest, ByteArray.size_extract]; omega
  have hr6 : r ≤ 1048576 := by omega
  obtain ⟨v, hvv⟩ : ∃ v, value.size = v := ⟨_, rfl⟩
  have HE : Hid (entL c key value = putsE c r v 3 ++ btx rest ++ btx value) := by
    show _ = _
    unfold entL
    rw [hrest, ← hrr, hvv]
    rfl
  rw [HE.out]
  have hci : (c : Int) ≤ (key.size : Int) := by omega
  have HPL := hide (fun k => puts_len c r v k (by omega) hr6 (by omega))
  have HP : Hid (∀ (u : Nat) (W : World), u ≤ 1048576 → Calls Tryz.prog 94 #[.int .i64 (u : Int)] W fun e w' => ∃ v, e = .returned v ∧ Own w' W.heap.size v (put u) ∧ Below W.heap.size W w') := fun u W hu => by
    have h := put_any (u : Int) W (wf_nat u hu)
    rw [putI_nat] at h
    exact h
  have HR9 := hide hrr
  have HVV := hide hvv
  have HRL := hide hr
  clear HE hrr
  go_enter Tryz.func62, Tryz.ntmps62
  go_upto_region 4 with (fail)
  have hcr : c ≤ 1048576 := by omega
  have hvs : v ≤ 1048576 := by omega
  clear hvv
  go_loopw [8, 20] (fun s8 s20 wr => ∃ (k : Nat) (z : Int) (va : Option Addr) (vc : Nat), k ≤ 3 ∧ z = (k : Int) ∧ s20 = .int .i64 z ∧ s8 = .slice va (putsE c r v k).length vc ∧ Hid (Own wr w.heap.size (.slice va (putsE c r v k).length vc) (putsE c r v k)) ∧ Hid (Below w.heap.size w wr)) (fun _ s20 _ => 3 - (intOf s20).toNat)
  case atStart => exact ⟨0, 0, none, 0, by omega, rfl, rfl, rfl, own_none _ _, Below.refl _ _⟩
  case round =>
    obtain ⟨k, z, va, vc, hk3, hz, rfl, rfl, HO, HB⟩ := hrel
    by_cases hk : k < 3
    · have hk2 : k = 0 ∨ k = 1 ∨ k = 2 := by omega
      rcases hk2 with rfl | rfl | rfl
      · obtain rfl : z = 0 := by omega
        clear hz hk hk3
        have hix : ∀ W, (Instr.index 170 (.agg #[.int .i64 (c : Int), .int .i64 (r : Int), .int .i64 (v : Int)]) (.int .i64 0)).run Tryz.prog W = .ok (.int .i64 (c : Int)) W := fun W => index3 c r v W |>.1
        go_wp2_with (first
          | (go_at_call 94; refine (HP.out c _ (by omega)).mono ?_; rintro e w1 ⟨v1, rfl, ho, hb⟩; obtain ⟨a1, c1, e1⟩ := ho.shape; subst e1; have HO1 := hide ho; have HBX := hide (below_trans HB.out hb); have HOW := hide (HO.out.below hb); have HS1 := hide hb.size; clear ho hb)
          | (at_builtin; refine join _ rfl _ _ rfl w.heap.size _ (putsE c r v 0) rfl HOW.out a1 (put c).length c1 (put c) rfl (Got.rd HO1.out (by have := put9 c (by omega); omega)) (Got.nil HO1.out) (by have := HPL.out 0; have := put9 c (by omega); omega) (by have := HBX.out.size; omega) ?_; intro v2 w2 ho2 hg2; obtain ⟨a2, c2, e2⟩ := ho2.shape; subst e2; have HO2 := hide ho2; have HB2 := hide (HBX.out.grown hg2 HBX.out.size (fun i e => (blk HOW.out i e).1)); clear ho2 hg2))
        go_roundw
        case rel => exact ⟨0 + 1, 0 + 1, a2, c2, by omega, by omega, rfl, by rw [← List.length_append]; rfl, HO2.out, HB2.out⟩
        case measure => (simp [intOf] <;> omega)
      · obtain rfl : z = 1 := by omega
        clear hz hk hk3
        have hix : ∀ W, (Instr.index 170 (.agg #[.int .i64 (c : Int), .int .i64 (r : Int), .int .i64 (v : Int)]) (.int .i64 1)).run Tryz.prog W = .ok (.int .i64 (r : Int)) W := fun W => index3 c r v W |>.2.1
        go_wp2_with (first
          | (go_at_call 94; refine (HP.out r _ (by omega)).mono ?_; rintro e w1 ⟨v1, rfl, ho, hb⟩; obtain ⟨a1, c1, e1⟩ := ho.shape; subst e1; have HO1 := hide ho; have HBX := hide (below_trans HB.out hb); have HOW := hide (HO.out.below hb); have HS1 := hide hb.size; clear ho hb)
          | (at_builtin; refine join _ rfl _ _ rfl w.heap.size _ (putsE c r v 1) rfl HOW.out a1 (put r).length c1 (put r) rfl (Got.rd HO1.out (by have := put9 r (by omega); omega)) (Got.nil HO1.out) (by have := HPL.out 1; have := put9 r (by omega); omega) (by have := HBX.out.size; omega) ?_; intro v2 w2 ho2 hg2; obtain ⟨a2, c2, e2⟩ := ho2.shape; subst e2; have HO2 := hide ho2; have HB2 := hide (HBX.out.grown hg2 HBX.out.size (fun i e => (blk HOW.out i e).1)); clear ho2 hg2))
        go_roundw
        case rel => exact ⟨1 + 1, 1 + 1, a2, c2, by omega, by omega, rfl, by rw [← List.length_append]; rfl, HO2.out, HB2.out⟩
        case measure => (simp [intOf] <;> omega)
      · obtain rfl : z = 2 := by omega
        clear hz hk hk3
        have hix : ∀ W, (Instr.index 170 (.agg #[.int .i64 (c : Int), .int .i64 (r : Int), .int .i64 (v : Int)]) (.int .i64 2)).run Tryz.prog W = .ok (.int .i64 (v : Int)) W := fun W => index3 c r v W |>.2.2
        go_wp2_with (first
          | (go_at_call 94; refine (HP.out v _ (by omega)).mono ?_; rintro e w1 ⟨v1, rfl, ho, hb⟩; obtain ⟨a1, c1, e1⟩ := ho.shape; subst e1; have HO1 := hide ho; have HBX := hide (below_trans HB.out hb); have HOW := hide (HO.out.below hb); have HS1 := hide hb.size; clear ho hb)
          | (at_builtin; refine join _ rfl _ _ rfl w.heap.size _ (putsE c r v 2) rfl HOW.out a1 (put v).length c1 (put v) rfl (Got.rd HO1.out (by have := put9 v (by omega); omega)) (Got.nil HO1.out) (by have := HPL.out 2; have := put9 v (by omega); omega) (by have := HBX.out.size; omega) ?_; intro v2 w2 ho2 hg2; obtain ⟨a2, c2, e2⟩ := ho2.shape; subst e2; have HO2 := hide ho2; have HB2 := hide (HBX.out.grown hg2 HBX.out.size (fun i e => (blk HOW.out i e).1)); clear ho2 hg2))
        go_roundw
        case rel => exact ⟨2 + 1, 2 + 1, a2, c2, by omega, by omega, rfl, by rw [← List.length_append]; rfl, HO2.out, HB2.out⟩
        case measure => (simp [intOf] <;> omega)
    · obtain rfl : k = 3 := by omega
      obtain rfl : z = 3 := by omega
      clear hz hk hk3
      obtain ⟨i0, hi, hz0, hz1, hz2⟩ := info_parts info8
      have HL3 := hide (HPL.out 3)
      obtain ⟨P3, hP3⟩ : ∃ P, putsE c r v 3 = P := ⟨_, rfl⟩
      rw [hP3] at HO HL3 ⊢
      have HP3 := hide hP3
      clear hP3 HPL HP
      go_wp2_with (first
        | (at_builtin; have h := HO1; refine Lib.wpList_append_own_string (P := Tryz.prog) _ rfl _ _ 24 9 rfl w.heap.size 5 i0 Tryz.underlying24 Tryz.underlying9 hi hz0 hz1 hz2 (.slice a1 n1 c1) n1 (vals (P3 ++ btx rest)) rfl (by have q : w1.ownsRow w.heap.size 5 1 (.slice a1 n1 c1) (P3 ++ btx rest).length (vals (P3 ++ btx rest)) := HO1.out; rw [HN1.out] at q; exact q) value rfl (by have := HL3.out; have := HN1.out; have := HX1.out; unfold maxLen; omega) (by have := HL3.out; have := HN1.out; have := HX1.out; omega) HB1.out.size ?_; intro v2 w2 ho2 hg2 _; have HO2 : Hid (Own w2 w.heap.size v2 (P3 ++ btx rest ++ btx value)) := (by rw [strCells_btx] at ho2; exact own_append ho2 (by rw [btx_len, HN1.out])); have HB2 := hide (HB1.out.grown hg2 HB1.out.size (fun i e => (blk HO1.out i e).1)); clear ho2 hg2 h)
        | (at_builtin; refine Lib.wpList_append_own_string (P := Tryz.prog) _ rfl _ _ 24 9 rfl w.heap.size 5 i0 Tryz.underlying24 Tryz.underlying9 hi hz0 hz1 hz2 (.slice va P3.length vc) P3.length (vals P3) rfl HO.out rest rfl (by have := HL3.out; unfold maxLen; omega) (by have := HL3.out; omega) HB.out.size ?_; intro v1 w1 ho1 hg1 _; obtain ⟨a1, n1, c1, e1, hn1⟩ : ∃ a n c, v1 = .slice a n c ∧ n = P3.length + rest.size := (by obtain ⟨a, c, e⟩ := own_any_shape ho1; exact ⟨a, _, c, e, rfl⟩); subst e1; have HO1 : Hid (Own w1 w.heap.size (.slice a1 n1 c1) (P3 ++ btx rest)) := (by rw [strCells_btx] at ho1; exact own_append ho1 (by rw [btx_len])); have HN1 : Hid ((P3 ++ btx rest).length = n1) := (by show _ = _; rw [List.length_append, btx_len, hn1]); have HX1 : Hid (n1 = P3.length + rest.size) := hn1; have HB1 := hide (HB.out.grown hg1 HB.out.size (fun i e => (blk HO.out i e).1)); clear ho1 hg1 hn1))
      go_ret
      exact ⟨_, rfl, by rw [HP3.out]; exact HO2.out, HB2.out⟩
end Go.Proofs.YthdblnfohbldcaaGreat.Bl
/-
  What the program tells of tiles: stored, Seal, Open.
-/
namespace Go.Proofs.YthdblnfohbldcaaGreat.Crc
set_option linter.unusedVariables false
open Go.Proofs.YthdblnfohbldcaaGreat.Base
open Go.ChangeShapes Go.WideShapes Go.ChangeAt Go.RowKit
theorem shl_step (s : BitVec 32) (c : BitVec 8) (k : Nat) : bits .or .u32 (s.toNat : Int) ((c.toNat : Int) * (2 : Int) ^ (8 * k) % 4294967296) = ((s ||| (c.setWidth 32 <<< (8 * k))).toNat : Int) := by
  have e : ((c.toNat : Int) * (2 : Int) ^ (8 * k) % 4294967296) = ((c.setWidth 32 <<< (8 * k)).toNat : Int) := by
    rw [BitVec.toNat_shiftLeft, BitVec.toNat_setWidth, Nat.mod_eq_of_lt (a := c.toNat) (by have := lt8 c; omega), Nat.shiftLeft_eq]
    rw [Int.natCast_emod, Int.natCast_mul, Int.natCast_pow]
    rfl
  rw [e, bor]
set_option maxHeartbeats 1000000 in
set_option maxRecDepth 100000 in
theorem stored_any (a : Option Addr) (cap : Nat) (bs : List (BitVec 8)) (w : World) (hr : Rd w a 4 bs) :
    Calls Tryz.prog 40 #[.slice a 4 cap] w fun e w' => e = .returned (.int .u32 ((le bs).toNat : Int)) ∧ w' = w := by
  obtain ⟨hl, hm, hc⟩ := hr
  obtain ⟨b, off, rfl, hb, hcell⟩ := hc (by omega)
  clear hc
  have HL := hide hl
  clear hl
  have HC := hide hcell
  clear hcell
  go_enter Tryz.func40, Tryz.ntmps40
  go_wp2
  go_loop [3, 5] (fun r i => ∃ k : Nat, k ≤ 4 ∧ i = .int .i64 k ∧ ∃ R : BitVec 32, r = .int .u32 (R.toNat : Int) ∧ Hid (R = leTo bs k)) (fun _ i => 4 - (intOf i).toNat)
  case atStart => exact ⟨0, Nat.zero_le _, rfl, BitVec.ofNat 32 0, rfl, rfl⟩
  case round =>
    obtain ⟨k, hk, rfl, R, rfl, HR⟩ := hrel
    by_cases hlt : k < 4
    · have g1 := HC.out k hlt
      have hx := shl_step R (bs.getD k 0) k
      obtain ⟨X, hX⟩ : ∃ X : BitVec 32, X = R ||| ((bs.getD k 0).setWidth 32 <<< (8 * k)) := ⟨_, rfl⟩
      rw [← hX] at hx
      have HX := hide hX
      clear hX
      generalize hC : bs.getD k 0 = c at g1 hx
      have HCC := hide hC
      clear hC
      go_wp2
      go_round
      case rel =>
        refine ⟨k + 1, by omega, by go_num, X, rfl, ?_⟩
        show X = _
        rw [HX.out, HR.out]
        rfl
      case measure => simp [intOf]; omega
    · have : k = 4 := by omega
      subst this
      go_wp2
      go_ret
      exact ⟨ret_int (by rw [HR.out]; rfl), rfl⟩
set_option maxHeartbeats 1000000 in
set_option maxRecDepth 100000 in
theorem open_fits (a : Option Addr) (len cap : Nat) (bs : List (BitVec 8)) (w : World) (hr : Rd w a len bs) (hcap : len ≤ cap) (hm : cap ≤ 9223372036854775807) :
    Calls Tryz.prog 11 #[.slice a len cap] w fun e w' => ∃ v, e = .returned (.tuple #[v, .int .i64 (openErr bs : Nat)]) ∧ Fit w' w.heap.size v (openBody bs) ∧ Below w.heap.size w w' := by
  have HL := hide hr.1
  have hlm := hr.2.1
  by_cases h4 : len < 4
  · have hs : ((len : Int) - 4 < 0) := by omega
    go_enter Tryz.func11, Tryz.ntmps11
    go_wp2
    go_ret2
    have e : openErr bs = 11 := open_short bs (by have := HL.out; omega)
    refine ⟨.slice none 0 0, by rw [e]; rfl, ⟨none, 0, rfl, ?_, ?_⟩, Below.refl _ _⟩
    · simp [openBody, e]
    · simp [openBody, e]; exact World.ownsRow_nil _ _ _ _
  · obtain ⟨n, rfl⟩ : ∃ n, len = n + 4 := ⟨len - 4, by omega⟩
    have R := hide hr
    clear hr
    obtain ⟨b, off, rfl, hbl, -⟩ := R.out.2.2 (by omega)
    have hsub : (((n + 4 : Nat) : Int) - 4) = (n : Int) := by omega
    go_enter Tryz.func11, Tryz.ntmps11
    go_wp2_with fail
    have CS := fun (wx : World) (hx : Below w.heap.size w wx) => sum_any (some ⟨b, off, none⟩) n cap (bs.take n) wx ((R.out.below hx).cut n (by omega))
    have CT := fun (wx : World) (hx : Below w.heap.size w wx) => stored_any (some ⟨b, off + n, none⟩) (cap - n) (bs.drop n) wx (by have h := (R.out.below hx).from n (by omega); rwa [Nat.add_sub_cancel_left] at h)
    have HCS := hide CS
    have HCT := hide CT
    clear CS CT
    go_cut [19] (fun s wx => s = .bool (((sum (bs.take n)).toNat : Int) != ((le (bs.drop n)).toNat : Int)) ∧ Hid (Below w.heap.size w wx))
    case first =>
      go_region_with (first
        | (go_at_call 39; refine (unhide HCS _ ?_).mono ?_; exact (Below.refl _ _).drew; rintro e w1 ⟨rfl, hb1⟩; have HB1 := hide (below_trans ((Below.refl w.heap.size w).drew) hb1); clear hb1)
        | (go_at_call 40; refine (unhide HCT _ ?_).mono ?_; exact HB1.out; rintro e w2 ⟨rfl, rfl⟩))
      all_goals (go_wp2_with fail; go_meet; exact ⟨rfl, HB1⟩)
    case rest =>
      obtain ⟨rfl, HB⟩ := hcut
      have HF := hide (Rd.below R.out HB.out)
      have hzz : HB = HB := rfl
      clear HCS HCT hzz
      by_cases hs : sum (bs.take n) = le (bs.drop n)
      · have e0 : openErr bs = 0 := by
          unfold openErr
          rw [if_neg (by have := HL.out; omega), HL.out, Nat.add_sub_cancel, if_pos hs]
        have eb : openBody bs = bs.take n := by
          unfold openBody; rw [if_pos e0, HL.out, Nat.add_sub_cancel]
        have hq : (((sum (bs.take n)).toNat : Int) != ((le (bs.drop n)).toNat : Int)) = false := by rw [hs]; simp
        rw [hq]
        clear hq
        have E0 := hide e0
        have EB := hide eb
        clear e0 eb hs
        obtain ⟨i0, hi, hz0, hz1, hz2⟩ := info_parts info8
        have hsz := HB.out.size
        have LT : Hid ((bs.take n).length = n) := by
          show (bs.take n).length = n
          rw [List.length_take, HL.out]; omega
        go_wp2_with (
          at_make; refine wpList_make_full _ rfl _ _ 24 rfl w.heap.size 5 i0 (.int .u8 0) 1 Tryz.underlying24 hi hz0 hz1 .i64 .i64 _ _ n rfl rfl rfl rfl (by rw [hz2]; omega) (by unfold maxLen; omega) hsz ?_
          intro w1 hown hgrow
          obtain ⟨w2, hrun, HO2, HB2⟩ := copy_into (w0 := w) (base := w.heap.size) (g := wc.heap.size) (n := n) (zs := List.replicate n (BitVec.ofNat 8 0)) (bs := bs.take n) (b := b) (off := off) (sLen := n + 4) (cap := cap)
            (by unfold Own; rw [List.length_replicate, ← vals_replicate]; exact hown) ((R.out.below (HB.out.grown hgrow hsz (by intro k h; cases h))).cut n (by omega)) (by omega) (HB.out.grown hgrow hsz (by intro k h; cases h)) (by unfold maxLen; omega)
          clear hown hgrow)
        go_ret2
        refine ⟨_, by rw [E0.out]; rfl, ⟨some ⟨wc.heap.size, 0, none⟩, n, rfl, by rw [EB.out, LT.out], by rw [EB.out]; exact HO2.out⟩, HB2.out⟩
      · have e0 : openErr bs = 10 := by
          unfold openErr
          rw [if_neg (by have := HL.out; omega), HL.out, Nat.add_sub_cancel, if_neg hs]
        have eb : openBody bs = [] := by
          unfold openBody; rw [if_neg (by omega)]
        have hq : (((sum (bs.take n)).toNat : Int) != ((le (bs.drop n)).toNat : Int)) = true := by
          rw [bne_iff_ne]; intro h; exact hs (BitVec.eq_of_toNat_eq (by omega))
        rw [hq]
        clear hq
        have E0 := hide e0
        have EB := hide eb
        clear e0 eb hs
        go_wp2
        go_ret2
        refine ⟨.slice none 0 0, by rw [E0.out]; rfl, ⟨none, 0, rfl, by rw [EB.out]; rfl, by rw [EB.out]; exact World.ownsRow_nil _ _ _ _⟩, HB.out⟩
theorem open_any (a : Option Addr) (len cap : Nat) (bs : List (BitVec 8)) (w : World) (hr : Rd w a len bs) (hcap : len ≤ cap) (hm : cap ≤ 9223372036854775807) :
    Calls Tryz.prog 11 #[.slice a len cap] w fun e w' => ∃ v, e = .returned (.tuple #[v, .int .i64 (openErr bs : Nat)]) ∧ Got w' w.heap.size v (openBody bs) ∧ Below w.heap.size w w' :=
  (open_fits a len cap bs w hr hcap hm).mono fun _ _ ⟨v, h1, ⟨a', n', h2, h3, h4⟩, h5⟩ => ⟨v, h1, ⟨a', n', n', h2, h3, h4⟩, h5⟩
end Go.Proofs.YthdblnfohbldcaaGreat.Crc
