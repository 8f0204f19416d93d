/-
  What the program tells of tiles: stored, Seal, Open.
-/
import Derived.Test.YthdblnfohbldcaaGreatCzFrame
import Derived.Test.YthdblnfohbldcaaGreatCrcTileMath
import Derived.Laws.CopyOwn
import Derived.Deep.RegionWith
import Derived.Deep.DeepCutAuto
namespace Go.Proofs.YthdblnfohbldcaaGreat.Crc
set_option linter.unusedVariables false
open Go.Proofs.YthdblnfohbldcaaGreat.Base
open Go.ChangeShapes Go.WideShapes Go.ChangeAt Go.RowKit
theorem shl_step (s : BitVec 32) (c : BitVec 8) (k : Nat) : bits .or .u32 (s.toNat : Int) ((c.toNat : Int) * (2 : Int) ^ (8 * k) % 4294967296) = ((s ||| (c.setWidth 32 <<< (8 * k))).toNat : Int) := by
  have e : ((c.toNat : Int) * (2 : Int) ^ (8 * k) % 4294967296) = ((c.setWidth 32 <<< (8 * k)).toNat : Int) := by
    rw [BitVec.toNat_shiftLeft, BitVec.toNat_setWidth, Nat.mod_eq_of_lt (a := c.toNat) (by have := lt8 c; omega), Nat.shiftLeft_eq]
    rw [Int.natCast_emod, Int.natCast_mul, Int.natCast_pow]
    rfl
  rw [e, bor]
set_option maxHeartbeats 1000000 in
set_option maxRecDepth 100000 in
theorem stored_any (a : Option Addr) (cap : Nat) (bs : List (BitVec 8)) (w : World) (hr : Rd w a 4 bs) :
    Calls Tryz.prog 40 #[.slice a 4 cap] w fun e w' => e = .returned (.int .u32 ((le bs).toNat : Int)) ∧ w' = w := by
  obtain ⟨hl, hm, hc⟩ := hr
  obtain ⟨b, off, rfl, hb, hcell⟩ := hc (by omega)
  clear hc
  have HL := hide hl
  clear hl
  have HC := hide hcell
  clear hcell
  go_enter Tryz.func40, Tryz.ntmps40
  go_wp2
  go_loop [3, 5] (fun r i => ∃ k : Nat, k ≤ 4 ∧ i = .int .i64 k ∧ ∃ R : BitVec 32, r = .int .u32 (R.toNat : Int) ∧ Hid (R = leTo bs k)) (fun _ i => 4 - (intOf i).toNat)
  case atStart => exact ⟨0, Nat.zero_le _, rfl, BitVec.ofNat 32 0, rfl, rfl⟩
  case round =>
    obtain ⟨k, hk, rfl, R, rfl, HR⟩ := hrel
    by_cases hlt : k < 4
    · have g1 := HC.out k hlt
      have hx := shl_step R (bs.getD k 0) k
      obtain ⟨X, hX⟩ : ∃ X : BitVec 32, X = R ||| ((bs.getD k 0).setWidth 32 <<< (8 * k)) := ⟨_, rfl⟩
      rw [← hX] at hx
      have HX := hide hX
      clear hX
      generalize hC : bs.getD k 0 = c at g1 hx
      have HCC := hide hC
      clear hC
      go_wp2
      go_round
      case rel =>
        refine ⟨k + 1, by omega, by go_num, X, rfl, ?_⟩
        show X = _
        rw [HX.out, HR.out]
        rfl
      case measure => simp [intOf]; omega
    · have : k = 4 := by omega
      subst this
      go_wp2
      go_ret
      exact ⟨ret_int (by rw [HR.out]; rfl), rfl⟩
set_option maxHeartbeats 1000000 in
set_option maxRecDepth 100000 in
theorem open_fits (a : Option Addr) (len cap : Nat) (bs : List (BitVec 8)) (w : World) (hr : Rd w a len bs) (hcap : len ≤ cap) (hm : cap ≤ 9223372036854775807) :
    Calls Tryz.prog 11 #[.slice a len cap] w fun e w' => ∃ v, e = .returned (.tuple #[v, .int .i64 (openErr bs : Nat)]) ∧ Fit w' w.heap.size v (openBody bs) ∧ Below w.heap.size w w' := by
  have HL := hide hr.1
  have hlm := hr.2.1
  by_cases h4 : len < 4
  · have hs : ((len : Int) - 4 < 0) := by omega
    go_enter Tryz.func11, Tryz.ntmps11
    go_wp2
    go_ret2
    have e : openErr bs = 11 := open_short bs (by have := HL.out; omega)
    refine ⟨.slice none 0 0, by rw [e]; rfl, ⟨none, 0, rfl, ?_, ?_⟩, Below.refl _ _⟩
    · simp [openBody, e]
    · simp [openBody, e]; exact World.ownsRow_nil _ _ _ _
  · obtain ⟨n, rfl⟩ : ∃ n, len = n + 4 := ⟨len - 4, by omega⟩
    have R := hide hr
    clear hr
    obtain ⟨b, off, rfl, hbl, -⟩ := R.out.2.2 (by omega)
    have hsub : (((n + 4 : Nat) : Int) - 4) = (n : Int) := by omega
    go_enter Tryz.func11, Tryz.ntmps11
    go_wp2_with fail
    have CS := fun (wx : World) (hx : Below w.heap.size w wx) => sum_any (some ⟨b, off, none⟩) n cap (bs.take n) wx ((R.out.below hx).cut n (by omega))
    have CT := fun (wx : World) (hx : Below w.heap.size w wx) => stored_any (some ⟨b, off + n, none⟩) (cap - n) (bs.drop n) wx (by have h := (R.out.below hx).from n (by omega); rwa [Nat.add_sub_cancel_left] at h)
    have HCS := hide CS
    have HCT := hide CT
    clear CS CT
    go_cut [19] (fun s wx => s = .bool (((sum (bs.take n)).toNat : Int) != ((le (bs.drop n)).toNat : Int)) ∧ Hid (Below w.heap.size w wx))
    case first =>
      go_region_with (first
        | (go_at_call 39; refine (unhide HCS _ ?_).mono ?_; exact (Below.refl _ _).drew; rintro e w1 ⟨rfl, hb1⟩; have HB1 := hide (below_trans ((Below.refl w.heap.size w).drew) hb1); clear hb1)
        | (go_at_call 40; refine (unhide HCT _ ?_).mono ?_; exact HB1.out; rintro e w2 ⟨rfl, rfl⟩))
      all_goals (go_wp2_with fail; go_meet; exact ⟨rfl, HB1⟩)
    case rest =>
      obtain ⟨rfl, HB⟩ := hcut
      have HF := hide (Rd.below R.out HB.out)
      have hzz : HB = HB := rfl
      clear HCS HCT hzz
      by_cases hs : sum (bs.take n) = le (bs.drop n)
      · have e0 : openErr bs = 0 := by
          unfold openErr
          rw [if_neg (by have := HL.out; omega), HL.out, Nat.add_sub_cancel, if_pos hs]
        have eb : openBody bs = bs.take n := by
          unfold openBody; rw [if_pos e0, HL.out, Nat.add_sub_cancel]
        have hq : (((sum (bs.take n)).toNat : Int) != ((le (bs.drop n)).toNat : Int)) = false := by rw [hs]; simp
        rw [hq]
        clear hq
        have E0 := hide e0
        have EB := hide eb
        clear e0 eb hs
        obtain ⟨i0, hi, hz0, hz1, hz2⟩ := info_parts info8
        have hsz := HB.out.size
        have LT : Hid ((bs.take n).length = n) := by
          show (bs.take n).length = n
          rw [List.length_take, HL.out]; omega
        go_wp2_with (
          at_make; refine wpList_make_full _ rfl _ _ 24 rfl w.heap.size 5 i0 (.int .u8 0) 1 Tryz.underlying24 hi hz0 hz1 .i64 .i64 _ _ n rfl rfl rfl rfl (by rw [hz2]; omega) (by unfold maxLen; omega) hsz ?_
          intro w1 hown hgrow
          obtain ⟨w2, hrun, HO2, HB2⟩ := copy_into (w0 := w) (base := w.heap.size) (g := wc.heap.size) (n := n) (zs := List.replicate n (BitVec.ofNat 8 0)) (bs := bs.take n) (b := b) (off := off) (sLen := n + 4) (cap := cap)
            (by unfold Own; rw [List.length_replicate, ← vals_replicate]; exact hown) ((R.out.below (HB.out.grown hgrow hsz (by intro k h; cases h))).cut n (by omega)) (by omega) (HB.out.grown hgrow hsz (by intro k h; cases h)) (by unfold maxLen; omega)
          clear hown hgrow)
        go_ret2
        refine ⟨_, by rw [E0.out]; rfl, ⟨some ⟨wc.heap.size, 0, none⟩, n, rfl, by rw [EB.out, LT.out], by rw [EB.out]; exact HO2.out⟩, HB2.out⟩
      · have e0 : openErr bs = 10 := by
          unfold openErr
          rw [if_neg (by have := HL.out; omega), HL.out, Nat.add_sub_cancel, if_neg hs]
        have eb : openBody bs = [] := by
          unfold openBody; rw [if_neg (by omega)]
        have hq : (((sum (bs.take n)).toNat : Int) != ((le (bs.drop n)).toNat : Int)) = true := by
          rw [bne_iff_ne]; intro h; exact hs (BitVec.eq_of_toNat_eq (by omega))
        rw [hq]
        clear hq
        have E0 := hide e0
        have EB := hide eb
        clear e0 eb hs
        go_wp2
        go_ret2
        refine ⟨.slice none 0 0, by rw [E0.out]; rfl, ⟨none, 0, rfl, by rw [EB.out]; rfl, by rw [EB.out]; exact World.ownsRow_nil _ _ _ _⟩, HB.out⟩
theorem open_any (a : Option Addr) (len cap : Nat) (bs : List (BitVec 8)) (w : World) (hr : Rd w a len bs) (hcap : len ≤ cap) (hm : cap ≤ 9223372036854775807) :
    Calls Tryz.prog 11 #[.slice a len cap] w fun e w' => ∃ v, e = .returned (.tuple #[v, .int .i64 (openErr bs : Nat)]) ∧ Got w' w.heap.size v (openBody bs) ∧ Below w.heap.size w w' :=
  (open_fits a len cap bs w hr hcap hm).mono fun _ _ ⟨v, h1, ⟨a', n', h2, h3, h4⟩, h5⟩ => ⟨v, h1, ⟨a', n', n', h2, h3, h4⟩, h5⟩
end Go.Proofs.YthdblnfohbldcaaGreat.Crc
