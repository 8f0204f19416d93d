/-
  What the program tells of Extend and Sum, of any bytes that a slice reads as.
-/
import Derived.Test.YthdblnfohbldcaaGreatCrcHalves
import Derived.Test.YthdblnfohbldcaaGreatBase
namespace Go.Proofs.YthdblnfohbldcaaGreat.Crc
set_option linter.unusedVariables false
open Go.Proofs.YthdblnfohbldcaaGreat.Base
open Go.ChangeShapes Go.WideShapes Go.ChangeAt Go.RowKit
theorem tab16_get (x : BitVec 32) : (tab 16)[(x &&& BitVec.ofNat 32 15).toNat]? = some (.int .u32 ((Mn 4 (x &&& BitVec.ofNat 32 15)).toNat : Int)) := by
  have hlt : (x &&& BitVec.ofNat 32 15).toNat < 16 := by
    rw [BitVec.toNat_and]
    have : x.toNat &&& (BitVec.ofNat 32 15).toNat ≤ (BitVec.ofNat 32 15).toNat := Nat.and_le_right
    have e : (BitVec.ofNat 32 15).toNat = 15 := by decide
    omega
  rw [tab_get 16 _ hlt, if_pos hlt]
  simp
theorem bnot (x : BitVec 32) : bits .xor .u32 IntKind.u32.max (x.toNat : Int) = ((~~~x).toNat : Int) := by
  have e : IntKind.u32.max = (((BitVec.allOnes 32).toNat : Nat) : Int) := by decide
  rw [e, bxor, BitVec.allOnes_xor]
theorem bxor8 (r : BitVec 32) (c : BitVec 8) : bits .xor .u32 (r.toNat : Int) (c.toNat : Int) = ((r ^^^ c.setWidth 32).toNat : Int) := by
  have e : ((c.toNat : Nat) : Int) = ((c.setWidth 32).toNat : Int) := by
    rw [BitVec.toNat_setWidth, Nat.mod_eq_of_lt]
    have := lt8 c
    omega
  rw [e, bxor]
theorem band15 (x : BitVec 32) : bits .and .u32 (x.toNat : Int) 15 = ((x &&& BitVec.ofNat 32 15).toNat : Int) := by
  have e : (15 : Int) = (((BitVec.ofNat 32 15).toNat : Nat) : Int) := by decide
  rw [e, band]
theorem u32s : IntKind.u32.signed = false := rfl
theorem not_step (s : BitVec 32) : ∃ n : BitVec 32, bits .xor .u32 IntKind.u32.max (s.toNat : Int) = (n.toNat : Int) ∧ Hid (n = ~~~s) := ⟨_, bnot s, rfl⟩
theorem byte_step (r : BitVec 32) (c : BitVec 8) : ∃ x : BitVec 32, bits .xor .u32 (r.toNat : Int) (c.toNat : Int) = (x.toNat : Int) ∧ Hid (x = r ^^^ c.setWidth 32) := ⟨_, bxor8 r c, rfl⟩
theorem half_step (X : BitVec 32) : ∃ z q t y : BitVec 32, (X.toNat : Int) / (16 : Int) = (z.toNat : Int) ∧ bits .and .u32 (X.toNat : Int) 15 = (q.toNat : Int) ∧ (q.toNat : Int) < 16 ∧
    (tab 16)[q.toNat]? = some (.int .u32 (t.toNat : Int)) ∧ bits .xor .u32 (z.toNat : Int) (t.toNat : Int) = (y.toNat : Int) ∧ Hid (y = Mn 4 X) := by
  refine ⟨_, _, _, _, bshr4 X, band15 X, ?_, tab16_get X, bxor _ _, half X⟩
  rw [BitVec.toNat_and]
  have : X.toNat &&& (BitVec.ofNat 32 15).toNat ≤ (BitVec.ofNat 32 15).toNat := Nat.and_le_right
  have e : (BitVec.ofNat 32 15).toNat = 15 := by decide
  omega
set_option maxHeartbeats 1000000 in
theorem extend_any (s : BitVec 32) (a : Option Addr) (len cap : Nat) (bs : List (BitVec 8)) (w : World) (hr : Rd w a len bs) :
    Calls Tryz.prog 88 #[.int .u32 (s.toNat : Int), .slice a len cap] w fun e w' => e = .returned (.int .u32 ((extend s bs).toNat : Int)) ∧ Below w.heap.size w w' := by
  obtain ⟨hl, hm, hc⟩ := hr
  have HL : Hid (bs.length = len) := hl
  clear hl
  have HC := hide hc
  clear hc
  obtain ⟨n0, hn0, HN0⟩ := not_step s
  have hsg := u32s
  go_enter Tryz.func88, Tryz.ntmps88
  go_wp2_with (go_at_call 133; refine (halves_any _).mono ?_; rintro e w1 ⟨rfl, hb⟩; rw [tab16_eq])
  rw [← tab16_eq]
  obtain ⟨hbc, hbf⟩ := bcell hb
  have HB := hide hb
  have hsz := hb.size
  clear hb
  go_loop [6, 14] (fun r i => ∃ k : Nat, k ≤ len ∧ i = .int .i64 k ∧ ∃ R : BitVec 32, r = .int .u32 (R.toNat : Int) ∧ Hid (R = run (~~~s) (bs.take k))) (fun _ i => len - (intOf i).toNat)
  case atStart => exact ⟨0, Nat.zero_le _, rfl, n0, rfl, by rw [HN0.out]; rfl⟩
  case round =>
    obtain ⟨k, hk, rfl, R, rfl, HR⟩ := hrel
    by_cases hlt : k < len
    · obtain ⟨b, off, rfl, hbl, hcell⟩ := unhide HC (by omega)
      have hck := hcell k hlt
      clear hcell
      generalize hC : bs.getD k 0 = c at hck
      have HCc := hide hC
      clear hC
      obtain ⟨X, h1, HX⟩ := byte_step R c
      obtain ⟨z, q, t, Y, h2, h3, h3', h4, h5, HY⟩ := half_step X
      obtain ⟨z2, q2, t2, Z, g2, g3, g3', g4, g5, HZ⟩ := half_step Y
      have hbw : b < w1.heap.size := by omega
      have hcw : w1.cell? ⟨b, off + k, none⟩ = some (.int .u8 (c.toNat : Int)) := by rw [hbc b _ hbl]; exact hck
      go_wp2
      go_round
      case rel =>
        refine ⟨k + 1, by omega, by go_num, Z, rfl, ?_⟩
        show Z = _
        rw [getD_take bs k (by have := HL.out; omega), run_snoc, ← HR.out, HCc.out, HZ.out, HY.out, HX.out, step_two]
      case measure => simp [intOf]; omega
    · obtain ⟨n1, hn1, HN1⟩ := not_step R
      go_wp2
      go_ret
      refine ⟨ret_int ?_, (HB.out).alloc (by omega) _⟩
      rw [HN1.out, HR.out, List.take_of_length_le (by have := HL.out; omega)]
      rfl
theorem sum_any (a : Option Addr) (len cap : Nat) (bs : List (BitVec 8)) (w : World) (hr : Rd w a len bs) :
    Calls Tryz.prog 39 #[.slice a len cap] w fun e w' => e = .returned (.int .u32 ((sum bs).toNat : Int)) ∧ Below w.heap.size w w' := by
  go_enter Tryz.func39, Tryz.ntmps39
  go_wp2_with fail
  refine (extend_any (BitVec.ofNat 32 0) a len cap bs _ hr).mono ?_
  rintro e w1 ⟨rfl, hb⟩
  go_wp2_with fail
  go_ret
  exact ⟨rfl, hb⟩
end Go.Proofs.YthdblnfohbldcaaGreat.Crc
