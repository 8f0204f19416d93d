/-
  A reader with its bytes and places; a walker of a group.
-/
import Derived.Test.YthdblnfohbldcaaGreatBlRdr
import Derived.Test.YthdblnfohbldcaaGreatBlGrp
import Derived.Test.YthdblnfohbldcaaGreatCut
import Derived.Test.YthdblnfohbldcaaGreatNumsCur3
namespace Go.Proofs.YthdblnfohbldcaaGreat.Bl
open Go.ChangeShapes Go.WideShapes Go.ChangeAt Go.RowKit
open Go.Proofs.YthdblnfohbldcaaGreat.Base Go.Proofs.YthdblnfohbldcaaGreat.Nums Go.Proofs.YthdblnfohbldcaaGreat.Curs
open Go.Proofs.YthdblnfohbldcaaGreat.Fa (St Cst)
set_option linter.unusedVariables false
def laB (ua : Option Addr) (cap e : Nat) : Option Addr := if cap = e then ua else ua.map (·.add e)
theorem slice_lh8 (ua : Option Addr) (len cap e f : Nat) (h : e ≤ f) (hc : f ≤ cap) (W : World) : (Instr.sliceAt 24 (.slice ua len cap) (some (.int .i64 (e : Int))) (some (.int .i64 (f : Int))) none).run Tryz.prog W = .ok (.slice (laB ua cap e) (f - e) (cap - e)) W := by
  rw [run_sliceAt_slice (h := el8), run_slice_lh (ht := el8) (h0 := by omega) (h1 := by omega) (h2 := by omega), sz8]
  simp only [Result.andThen, sliced, Int.toNat_natCast, Nat.mul_one]
  rfl
theorem laB_nil {ua : Option Addr} {cap e : Nat} (h : laB ua cap e = none) : ua = none := by
  unfold laB at h
  split at h
  · exact h
  · cases ua with
    | none => rfl
    | some a => cases h
theorem rd_lh {w : World} {a : Option Addr} {n cap e f : Nat} {bs : List (BitVec 8)} (h : Rd w a n bs) (he : e ≤ f) (hf : f ≤ n) (hn : n ≤ cap) : Rd w (laB a cap e) (f - e) ((bs.drop e).take (f - e)) := by
  by_cases hz : f - e = 0
  · rw [hz, List.take_zero]; exact rd_zero _ _
  · obtain ⟨b, off, rfl, _, _⟩ := h.2.2 (by omega)
    have h1 := (h.from e (by omega)).cut (f - e) (by omega)
    unfold laB
    rw [if_neg (by omega), Option.map_some, add_at rfl]
    exact h1
/-- A reader stands at q: its entries' bytes, its places, its restart interval, how many entries. -/
def RX (w : World) (q : Nat) (E : List (BitVec 8)) (ps : List Int) (r n : Nat) : Prop :=
  ∃ ea ec pa pc, RR w q (.slice ea E.length ec) (.slice pa ps.length pc) (r : Int) (n : Int) ∧ Rd w ea E.length E ∧ E.length ≤ ec ∧ ec ≤ 9223372036854775807 ∧ (ea = none → ec = 0) ∧ RdI w pa ps.length ps ∧ ps.length ≤ pc
theorem RX.below {w w' : World} {q : Nat} {E : List (BitVec 8)} {ps : List Int} {r n : Nat} (h : RX w q E ps r n) (hb : Below w.heap.size w w') : RX w' q E ps r n := by
  obtain ⟨ea, ec, pa, pc, h1, h2, h3, h4, h5, h6, h7⟩ := h
  exact ⟨ea, ec, pa, pc, h1.below hb, h2.below hb, h3, h4, h5, h6.below hb, h7⟩
theorem RX.lt {w : World} {q : Nat} {E : List (BitVec 8)} {ps : List Int} {r n : Nat} (h : RX w q E ps r n) : q < w.heap.size := by
  obtain ⟨ea, ec, pa, pc, h1, _⟩ := h
  exact h1.lt
/-- Places that may be. -/
def PsOk (E : List (BitVec 8)) (ps : List Int) : Prop := ∀ g, g + 1 < ps.length → 0 ≤ ps.getD g 0 ∧ ps.getD g 0 ≤ ps.getD (g + 1) 0 ∧ ps.getD (g + 1) 0 ≤ (E.length : Int)
set_option maxHeartbeats 4000000 in
set_option maxRecDepth 100000 in
theorem walk_any (q g : Nat) (E : List (BitVec 8)) (ps : List Int) (r n : Nat) (w : World) (h : RX w q E ps r n) (hp : PsOk E ps) (hg : g + 1 < ps.length) (hE : E.length ≤ 65536) (hps : ps.length ≤ 65537) :
    Calls Tryz.prog 57 #[.pointer (some ⟨q, 0, none⟩), .int .i64 (g : Int)] w fun e w' => ∃ k c, e = .returned (.pointer (some ⟨k, 0, none⟩)) ∧ WK w' k c ⟨#[]⟩ ∧ w.heap.size ≤ c ∧ c < k ∧ Cst w' c (some (grpL E ps g)) ∧ Below w.heap.size w w' := by
  obtain ⟨ea, ec, pa, pc, h1, h2, h3, h4, h5, h6, h7⟩ := h
  obtain ⟨hp1, hp2, hp3⟩ := hp g hg
  obtain ⟨p1, hq1⟩ := Int.eq_ofNat_of_zero_le hp1
  obtain ⟨p2, hq2⟩ := Int.eq_ofNat_of_zero_le (Int.le_trans hp1 hp2)
  have hgr : grpL E ps g = (E.drop p1).take (p2 - p1) := by unfold grpL; rw [hq1, hq2]; rfl
  rw [hgr]
  rw [hq1] at hp2
  rw [hq2] at hp2 hp3
  have hp12 : p1 ≤ p2 := by omega
  have hp2e : p2 ≤ E.length := by omega
  have hrd := rd_lh (cap := ec) h2 hp12 hp2e h3
  have hsl := slice_lh8 ea E.length ec p1 p2 hp12 (by omega)
  have HW : Hid (∀ W, Below w.heap.size w W → Calls Tryz.prog 101 #[.slice (laB ea ec p1) (p2 - p1) (ec - p1)] W fun e w' => ∃ k c, e = .returned (.pointer (some ⟨k, 0, none⟩)) ∧ WK w' k c ⟨#[]⟩ ∧ W.heap.size ≤ c ∧ c < k ∧ Cst w' c (some ((E.drop p1).take (p2 - p1))) ∧ Below W.heap.size W w') := fun W hW =>
    newW_any _ _ _ _ W (newCursor_any _ _ _ _ W (hrd.below hW) (by omega) (by omega) (fun e => by have := h5 (laB_nil e); omega))
  obtain ⟨LA, hLA⟩ : ∃ LA, laB ea ec p1 = LA := ⟨_, rfl⟩
  obtain ⟨LN, hLN⟩ : ∃ LN, p2 - p1 = LN := ⟨_, rfl⟩
  obtain ⟨LC, hLC⟩ : ∃ LC, ec - p1 = LC := ⟨_, rfl⟩
  obtain ⟨G, hG⟩ : ∃ G, (E.drop p1).take (p2 - p1) = G := ⟨_, rfl⟩
  rw [hG] at HW ⊢
  rw [hLA, hLN, hLC] at hsl HW
  obtain ⟨c0, c1, c2, c3⟩ := h1.cells
  obtain ⟨pb, po, rfl, hpb, hpc⟩ := h6.2.2 (by omega)
  have hql := h1.lt
  have g1 := hpc g (by omega)
  have g2 := hpc (g + 1) hg
  rw [hq1] at g1
  rw [hq2] at g2
  obtain ⟨N, hN⟩ : ∃ N, ps.length = N := ⟨_, rfl⟩
  obtain ⟨M, hM⟩ : ∃ M, E.length = M := ⟨_, rfl⟩
  rw [hN] at c1 hg
  rw [hM] at c0 hsl
  have i1 : (g : Int) < (N : Int) := by omega
  have i2 : (g : Int) + 1 < (N : Int) := by omega
  have i3 : IntKind.i64.wrap ((g : Int) + 1) = (g : Int) + 1 := by rw [IntKind.wrap_i64]; omega
  have i4 : ((g : Int) + 1).toNat = g + 1 := by omega
  have i5 : IntKind.i64.wrap (g : Int) = (g : Int) := by rw [IntKind.wrap_i64]; omega
  have i6 : 0 ≤ (g : Int) + 1 := by omega
  clear h1 h2 h3 h4 h5 h6 h7 hp hp1 hp2 hp3 hq1 hq2 hgr hp12 hp2e hrd hLA hLN hLC hG hpc hN hM hps hE c2 c3 hg
  have HE0 : Hid (∀ W, Below w.heap.size w W → W.cell? ⟨q, 0, none⟩ = some (.slice ea M ec) ∧ W.cell? ⟨q, 1, none⟩ = some (.slice (some ⟨pb, po, none⟩) N pc) ∧ W.cell? ⟨pb, po + g, none⟩ = some (.int .i64 (p1 : Int)) ∧ W.cell? ⟨pb, po + (g + 1), none⟩ = some (.int .i64 (p2 : Int))) := fun W hW =>
    ⟨(hW.cell (p := ⟨q, 0, none⟩) hql).trans c0, (hW.cell (p := ⟨q, 1, none⟩) hql).trans c1, (hW.cell (p := ⟨pb, po + g, none⟩) hpb).trans g1, (hW.cell (p := ⟨pb, po + (g + 1), none⟩) hpb).trans g2⟩
  clear hql hpb
  go_enter Tryz.func57, Tryz.ntmps57
  go_wp2_with fail
  go_region_held_law (fun V => V.cell? ⟨q, 0, none⟩ = some (.slice ea M ec) ∧ V.cell? ⟨q, 1, none⟩ = some (.slice (some ⟨pb, po, none⟩) N pc) ∧ V.cell? ⟨pb, po + g, none⟩ = some (.int .i64 (p1 : Int)) ∧ V.cell? ⟨pb, po + (g + 1), none⟩ = some (.int .i64 (p2 : Int))) (first | exact E1.out | go_keep) (first
    | (go_at_call 101; refine (HW.out _ (Below.refl _ _).drew).mono ?_; rintro e w1 ⟨k, c, rfl, hk, hc1, hc2, hc3, hb⟩; have HK := hide hk; have H1 := hide hc1; have H2 := hide hc2; have H3 := hide hc3; have HB := hide hb; have E1 := hide (HE0.out _ (below_trans (Below.refl _ _).drew hb)); clear hk hc1 hc2 hc3 hb))
  all_goals
    go_wp2_with fail
    go_ret
    exact ⟨k, c, rfl, HK.out, H1.out, H2.out, H3.out, below_trans (Below.refl _ _).drew HB.out⟩
end Go.Proofs.YthdblnfohbldcaaGreat.Bl
