/-
  Open of the tile of entries.
-/
import Derived.Test.YthdblnfohbldcaaGreatBlBS
import Derived.Test.YthdblnfohbldcaaGreatBlSeek
namespace Go.Proofs.YthdblnfohbldcaaGreat.Bl
open Go.ChangeShapes Go.WideShapes Go.ChangeAt Go.RowKit
open Go.Proofs.YthdblnfohbldcaaGreat.Base Go.Proofs.YthdblnfohbldcaaGreat.Nums Go.Proofs.YthdblnfohbldcaaGreat.Curs Go.Proofs.YthdblnfohbldcaaGreat.Crc
open Go.Proofs.YthdblnfohbldcaaGreat.Fa (St Cst)
set_option linter.unusedVariables false
theorem right_raw (r : Nat) (L : List En) (h1 : 1 ≤ r) (h64 : r ≤ 64) (hL : L ≠ []) (hok : OkB r L) : rightT (rawE r L) = true := by
  obtain ⟨c1, c2, c3, c4, c5, c6, c7⟩ := cut_back r L h1 h64 hL hok.1 hok.2.2
  unfold rightT
  rw [c3, c1, c2, c4, c6, c7, Bool.true_and]
  exact right_back r L (by omega) hok.1 (grpN r L.length) 0 ⟨#[]⟩ (by omega) (by rw [Nat.zero_mul]; exact hok.2.1)
theorem rl_of {w : World} {q r : Nat} {L : List En} (h1 : 1 ≤ r) (h64 : r ≤ 64) (hL : L ≠ []) (hok : OkB r L) (hx : RX w q ((rawE r L).take (ctE (rawE r L))) (ctP (rawE r L)) (ctR (rawE r L)) (ctN (rawE r L))) : RL w q L := by
  obtain ⟨c1, c2, c3, c4, c5, c6, c7⟩ := cut_back r L h1 h64 hL hok.1 hok.2.2
  obtain ⟨f1, f2, f3, f4, f5, f6, f7, f8, f9, f10, f11⟩ := cut_facts _ c3
  have hlen := hok.2.2
  rw [c7, c4] at f1
  rw [c4, c6] at f2
  rw [c6, c1, c2] at f3 f4
  rw [c7, c5] at f5
  rw [c6] at f10 f11
  rw [c5] at f11
  rw [c2] at f8 f9
  rw [c7, c4, c1, c2] at hx
  refine ⟨esL r L, plL r L, r, grpN r L.length, hx, f1, f2, f3, f4, by omega, by omega, h1, h64, by omega, ?_, hok.2.1, hok.1⟩
  exact fun g hg => grp_ents r L g (by omega) hok.1 hg
theorem packB_len (bs : List (BitVec 8)) (h : bs.length ≤ 65536) : (packB bs).length ≤ 8388609 := by
  unfold packB
  exact packL_len (by omega) (by have := lz_len bs h; omega) (by have := huff_len bs; omega)
/-- Open of the tile of entries. -/
theorem open_built (a : Option Addr) (n cap r : Nat) (L : List En) (w : World) (hr : Rd w a n (tileB (rawE r L))) (hcap : n ≤ cap) (hm : cap ≤ 9223372036854775807) (h1 : 1 ≤ r) (h64 : r ≤ 64) (hL : L ≠ []) (hok : OkB r L) :
    Calls Tryz.prog 10 #[.slice a n cap, .int .i64 ((rawE r L).length : Nat)] w fun e w' => ∃ q, e = .returned (.tuple #[.pointer (some ⟨q, 0, none⟩), .int .i64 0]) ∧ w.heap.size ≤ q ∧ RL w' q L ∧ Below w.heap.size w w' := by
  obtain ⟨o1, o2⟩ := open_tileB (rawE r L)
  obtain ⟨p1, p2⟩ := pack_unp (rawE r L) hok.2.2
  have hrt := right_raw r L h1 h64 hL hok
  have hlen := rawE_len r L
  refine (open_text a n cap (tileB (rawE r L)) (rawE r L) ((rawE r L).length : Int) w hr hcap hm (by omega) (by have := hok.2.2; omega) o1 (by rw [o2]; have := packB_len _ hok.2.2; omega) (by rw [o2]; exact p1) (by rw [o2]; exact p2) hok.2.2).mono ?_
  rintro e w' ⟨v, rfl, hq, _, hb⟩
  obtain ⟨q, rfl, hq1, hq2⟩ := hq hrt
  rw [if_pos hrt]
  exact ⟨q, rfl, hq1, rl_of h1 h64 hL hok hq2, hb⟩
end Go.Proofs.YthdblnfohbldcaaGreat.Bl
