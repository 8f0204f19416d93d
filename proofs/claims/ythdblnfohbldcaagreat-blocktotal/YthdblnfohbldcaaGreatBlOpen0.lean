/-
  Open: its ways out ahead of the cut.
-/
import Derived.Test.YthdblnfohbldcaaGreatBlUnp
import Derived.Test.YthdblnfohbldcaaGreatCzTile
namespace Go.Proofs.YthdblnfohbldcaaGreat.Bl
open Go.ChangeShapes Go.WideShapes Go.ChangeAt Go.RowKit
open Go.Proofs.YthdblnfohbldcaaGreat.Base Go.Proofs.YthdblnfohbldcaaGreat.Nums Go.Proofs.YthdblnfohbldcaaGreat.Crc
set_option linter.unusedVariables false
theorem own_le0 {w : World} {base cap : Nat} {a : Option Addr} {bs : List (BitVec 8)} (h : Own w base (.slice a bs.length cap) bs) : bs.length ≤ cap := by
  rcases h.2 with ⟨h1, h2⟩ | ⟨g, c, cur, h1, _⟩
  · omega
  · have h2 := h1
    simp only [Value.slice.injEq] at h2
    obtain ⟨rfl, _, rfl⟩ := h2
    exact Own.cap h
set_option maxRecDepth 100000 in
theorem open_range (t : Value) (raw : Int) (w : World) (h : raw < 1 ∨ 65536 < raw) :
    Calls Tryz.prog 10 #[t, .int .i64 raw] w fun e w' => e = .returned (.tuple #[.pointer none, .int .i64 3]) ∧ w' = w := by
  by_cases h1 : raw < 1
  · go_enter Tryz.func10, Tryz.ntmps10
    go_wp2_with fail
    go_ret2
    exact ⟨rfl, rfl⟩
  · have h2 : 65536 < raw := by omega
    go_enter Tryz.func10, Tryz.ntmps10
    go_wp2_with fail
    go_ret2
    exact ⟨rfl, rfl⟩
set_option maxHeartbeats 2000000 in
set_option maxRecDepth 100000 in
/-- A tile whose sum is not right, or that is too short. -/
theorem open_sum (a : Option Addr) (n cap : Nat) (bs : List (BitVec 8)) (raw : Int) (w : World) (hr : Rd w a n bs) (hcap : n ≤ cap) (hm : cap ≤ 9223372036854775807) (h1 : 1 ≤ raw) (h2 : raw ≤ 65536) (he : openErr bs ≠ 0) :
    Calls Tryz.prog 10 #[.slice a n cap, .int .i64 raw] w fun e w' => e = .returned (.tuple #[.pointer none, .int .i64 (openErr bs : Nat)]) ∧ Below w.heap.size w w' := by
  have HO := hide (Crc.open_any a n cap bs w hr hcap hm)
  have h1n : ¬ raw < 1 := by omega
  have h2n : ¬ 65536 < raw := by omega
  obtain ⟨E, hE⟩ : ∃ E, openErr bs = E := ⟨_, rfl⟩
  rw [hE] at HO he ⊢
  have hne : ((E : Int) != 0) = true := by simpa using he
  clear hE hr
  go_enter Tryz.func10, Tryz.ntmps10
  go_wp2_with (go_at_call 11; refine HO.out.mono ?_; rintro e w1 ⟨v, rfl, hg, hb⟩; have HB := hide hb; clear hg hb)
  go_ret2
  exact ⟨rfl, HB.out⟩
set_option maxHeartbeats 2000000 in
set_option maxRecDepth 100000 in
/-- A tile whose payload tells no such raw bytes. -/
theorem open_payload (a : Option Addr) (n cap : Nat) (bs : List (BitVec 8)) (raw : Int) (w : World) (hr : Rd w a n bs) (hcap : n ≤ cap) (hm : cap ≤ 9223372036854775807) (h1 : 1 ≤ raw) (h2 : raw ≤ 65536) (he : openErr bs = 0) (hl : (openBody bs).length ≤ 140737488355328) (hu : unpOk (openBody bs) raw = false) :
    Calls Tryz.prog 10 #[.slice a n cap, .int .i64 raw] w fun e w' => e = .returned (.tuple #[.pointer none, .int .i64 60]) ∧ Below w.heap.size w w' := by
  have HO := hide (Crc.open_any a n cap bs w hr hcap hm)
  rw [he] at HO
  have h1n : ¬ raw < 1 := by omega
  have h2n : ¬ 65536 < raw := by omega
  obtain ⟨P, hP⟩ : ∃ P, openBody bs = P := ⟨_, rfl⟩
  rw [hP] at HO hl hu
  have HU := hide hu
  clear hP hr hu
  go_enter Tryz.func10, Tryz.ntmps10
  go_wp2_with (first
    | (go_at_call 11; refine HO.out.mono ?_; rintro e w1 ⟨v, rfl, ⟨ga, gn, gc, rfl, hgn, hg⟩, hb⟩; have HB := hide hb; have HG := hide hg; have HGN := hide hgn; clear hg hb hgn)
    | (go_at_call 36; refine (unpack_any ga gn gc P raw _ (by rw [HGN.out] at HG ⊢; exact Got.rd HG.out hl) (by rw [HGN.out] at HG ⊢; exact own_le0 HG.out) (Own.room HG.out)).mono ?_; rintro e w2 ⟨v2, rfl, _, hb2⟩; rw [HU.out]; have HB2 := hide (below_trans HB.out hb2); clear hb2))
  go_ret2
  exact ⟨rfl, HB2.out⟩
end Go.Proofs.YthdblnfohbldcaaGreat.Bl
