/-
  A reader of the entries L: Len, At.
-/
import Derived.Test.YthdblnfohbldcaaGreatBlOpenR
namespace Go.Proofs.YthdblnfohbldcaaGreat.Bl
open Go.ChangeShapes Go.WideShapes Go.ChangeAt Go.RowKit
open Go.Proofs.YthdblnfohbldcaaGreat.Base Go.Proofs.YthdblnfohbldcaaGreat.Nums Go.Proofs.YthdblnfohbldcaaGreat.Curs Go.Proofs.YthdblnfohbldcaaGreat.Crc
open Go.Proofs.YthdblnfohbldcaaGreat.Fa (St Cst fixS)
set_option linter.unusedVariables false
/-- What is right of a reader's numbers. -/
def RG (E : List (BitVec 8)) (ps : List Int) (r G : Nat) (L : List En) : Prop :=
  PsOk E ps ∧ ps.length = G + 1 ∧ (∀ g, g < G → g * r < L.length) ∧ L.length ≤ G * r ∧ E.length ≤ 65536 ∧ G ≤ 65536 ∧ 1 ≤ r ∧ r ≤ 64 ∧ L.length ≤ 65536 ∧ (∀ g, g < G → entsW (gszN r L.length g) ⟨#[]⟩ (some (grpL E ps g)) = ((L.drop (g * r)).take (gszN r L.length g), some [])) ∧ rises ⟨#[]⟩ L = true ∧ Small L
/-- A reader of the entries L stands at q. -/
def RL (w : World) (q : Nat) (L : List En) : Prop := ∃ E ps r G, RX w q E ps r L.length ∧ RG E ps r G L
theorem RL.below {w w' : World} {q : Nat} {L : List En} (h : RL w q L) (hb : Below w.heap.size w w') : RL w' q L := by
  obtain ⟨E, ps, r, G, h1, h2⟩ := h
  exact ⟨E, ps, r, G, h1.below hb, h2⟩
theorem RL.lt {w : World} {q : Nat} {L : List En} (h : RL w q L) : q < w.heap.size := by
  obtain ⟨E, ps, r, G, h1, h2⟩ := h
  exact h1.lt
theorem len_rl (q : Nat) (L : List En) (w : World) (h : RL w q L) : Calls Tryz.prog 17 #[.pointer (some ⟨q, 0, none⟩)] w fun e w' => e = .returned (.int .i64 (L.length : Nat)) ∧ w' = w := by
  obtain ⟨E, ps, r, G, ⟨ea, ec, pa, pc, h1, _⟩, h2⟩ := h
  exact rlen_any q _ _ _ _ w h1
/-- The entry i, read in its group. -/
theorem ent_at {E : List (BitVec 8)} {ps : List Int} {r G : Nat} {L : List En} (h : RG E ps r G L) (i : Nat) (hi : i < L.length) :
    i / r < G ∧ (nextW (leftW (i % r) ⟨#[]⟩ (some (grpL E ps (i / r)))).1 (leftW (i % r) ⟨#[]⟩ (some (grpL E ps (i / r)))).2).1 = L.getD i dE := by
  obtain ⟨h1, h2, h3, h4, h5, h6, h7, h8, h9, h10, h11, h12⟩ := h
  have hd := Nat.div_add_mod i r
  have hm := Nat.mod_lt i (y := r) (by omega)
  have hg : i / r < G := by
    refine Nat.lt_of_not_le (fun hc => ?_)
    have : G * r ≤ i / r * r := Nat.mul_le_mul_right r hc
    rw [Nat.mul_comm (i / r)] at this
    omega
  have hj : i % r < gszN r L.length (i / r) := by unfold gszN; rw [Nat.mul_comm (i / r)]; omega
  refine ⟨hg, ?_⟩
  have e1 := ents_get (gszN r L.length (i / r)) (i % r) ⟨#[]⟩ (some (grpL E ps (i / r))) hj
  rw [h10 _ hg] at e1
  simp only at e1
  rw [List.getElem?_take_of_lt hj, List.getElem?_drop] at e1
  rw [List.getD_eq_getElem?_getD, show i = i / r * r + i % r by rw [Nat.mul_comm]; omega]
  rw [show (i / r * r + i % r) / r = i / r by rw [← show i = i / r * r + i % r by rw [Nat.mul_comm]; omega], show (i / r * r + i % r) % r = i % r by rw [← show i = i / r * r + i % r by rw [Nat.mul_comm]; omega], e1]
  rfl
set_option maxHeartbeats 4000000 in
set_option maxRecDepth 100000 in
theorem at_bad (q : Nat) (L : List En) (i : Int) (w : World) (h : RL w q L) (hi : i < 0 ∨ (L.length : Int) ≤ i) :
    Calls Tryz.prog 20 #[.pointer (some ⟨q, 0, none⟩), .int .i64 i] w fun e w' => e = .returned (.tuple #[.string ⟨#[]⟩, .string ⟨#[]⟩, .int .i64 3]) ∧ w' = w := by
  obtain ⟨E, ps, r, G, ⟨ea, ec, pa, pc, h1, _⟩, h2⟩ := h
  obtain ⟨c0, c1, c2, c3⟩ := h1.cells
  by_cases h0 : i < 0
  · go_enter Tryz.func20, Tryz.ntmps20
    go_wp2_with fail
    go_ret3
    exact ⟨rfl, rfl⟩
  · have h3 : (L.length : Int) ≤ i := by omega
    go_enter Tryz.func20, Tryz.ntmps20
    go_wp2_with fail
    go_ret3
    exact ⟨rfl, rfl⟩
set_option maxHeartbeats 4000000 in
set_option maxRecDepth 100000 in
theorem at_rl (q : Nat) (L : List En) (i : Nat) (w : World) (h : RL w q L) (hi : i < L.length) :
    Calls Tryz.prog 20 #[.pointer (some ⟨q, 0, none⟩), .int .i64 (i : Int)] w fun e w' => e = .returned (.tuple #[.string (L.getD i dE).1, .string (L.getD i dE).2, .int .i64 0]) ∧ Below w.heap.size w w' := by
  obtain ⟨E, ps, r, G, hX, hG⟩ := h
  obtain ⟨hg, hat⟩ := ent_at hG i hi
  obtain ⟨f1, f2, f3, f4, f5, f6, f7, f8, f9, _⟩ := hG
  have hil : i ≤ 65536 := by omega
  obtain ⟨g, hgg⟩ : ∃ g, i / r = g := ⟨_, rfl⟩
  obtain ⟨j, hj⟩ : ∃ j, i % r = j := ⟨_, rfl⟩
  rw [hgg] at hg hat
  rw [hj] at hat
  have hjr : j < r := by rw [← hj]; exact Nat.mod_lt _ (by omega)
  obtain ⟨EN, hEN⟩ : ∃ EN, L.getD i dE = EN := ⟨_, rfl⟩
  rw [hEN] at hat ⊢
  obtain ⟨AK, AV⟩ := EN
  simp only
  have HAT := hide hat
  clear hEN
  have HWL : Hid (∀ W, Below w.heap.size w W → Calls Tryz.prog 57 #[.pointer (some ⟨q, 0, none⟩), .int .i64 (g : Int)] W fun e w' => ∃ k c, e = .returned (.pointer (some ⟨k, 0, none⟩)) ∧ WK w' k c ⟨#[]⟩ ∧ W.heap.size ≤ c ∧ c < k ∧ Cst w' c (some (grpL E ps g)) ∧ Below W.heap.size W w') := fun W hW =>
    walk_any q g E ps r _ W (hX.below hW) f1 (by omega) f5 (by omega)
  obtain ⟨s0, hs0⟩ : ∃ s0 : St, some (grpL E ps g) = s0 := ⟨_, rfl⟩
  rw [hs0] at HWL HAT
  have q1 : (i : Int).tdiv (r : Int) = (g : Int) := by rw [Int.tdiv_eq_ediv_of_nonneg (by omega), ← hgg]; rfl
  have q2 : IntKind.i64.wrap (g : Int) = (g : Int) := by rw [IntKind.wrap_i64]; omega
  have q3 : (i : Int).tmod (r : Int) = (j : Int) := by rw [Int.tmod_eq_emod_of_nonneg (by omega), ← hj]; rfl
  have q4 : IntKind.i64.wrap (j : Int) = (j : Int) := by rw [IntKind.wrap_i64]; omega
  have q5 : ¬ (r : Int) = 0 := by omega
  have q6 : ¬ (L.length : Int) ≤ (i : Int) := by omega
  have HCL : Hid (∀ W, Below w.heap.size w W → W.cell? ⟨q, 2, none⟩ = some (.int .i64 (r : Int))) := fun W hW => by
    obtain ⟨ea, ec, pa, pc, h1, _⟩ := hX.below hW
    exact h1.cells.2.2.1
  obtain ⟨ea, ec, pa, pc, h1, _⟩ := hX
  obtain ⟨c0, c1, c2, c3⟩ := h1.cells
  clear f1 f2 f3 f4 f5 f6 h1 hat hs0 hgg hj c0 c1
  go_enter Tryz.func20, Tryz.ntmps20
  go_wp2_with (go_at_call 57; refine (HWL.out _ (Below.refl _ _)).mono ?_; rintro e w1 ⟨k, c, rfl, hk, hc1, hc2, hc3, hb⟩; have HK := hide hk; have H1 := hide hc1; have H2 := hide hc2; have HC := hide hc3; have HB1 := hide hb; have c2b := HCL.out _ hb; clear hk hc1 hc2 hc3 hb)
  go_loopw [36] (fun s36 wr => ∃ (d : Nat) (key : ByteArray) (s : St), d ≤ j ∧ s36 = .int .i64 (d : Int) ∧ Hid (WK wr k c key) ∧ Hid (Cst wr c s) ∧ Hid (leftW d ⟨#[]⟩ s0 = (key, s)) ∧ Hid (key.size ≤ 1024) ∧ Hid (Below w.heap.size w wr)) (fun s36 _ => j - (intOf s36).toNat)
  case atStart => exact ⟨0, ⟨#[]⟩, s0, Nat.zero_le _, rfl, HK.out, HC.out, rfl, Nat.zero_le _, HB1.out⟩
  case round =>
    rename World => V0
    obtain ⟨d, key, s, hd, rfl, HKd, HCd, HLd, HKS, HBd⟩ := hrel
    have HNX := hide (next_any k c key s V0 HKd.out HCd.out (by have := H2.out; omega) HKS.out)
    obtain ⟨X, hX⟩ : ∃ X, (nextW key s).1.1 = X := ⟨_, rfl⟩
    obtain ⟨Y, hY⟩ : ∃ Y, (nextW key s).1.2 = Y := ⟨_, rfl⟩
    obtain ⟨s', hs'⟩ : ∃ Y, (nextW key s).2 = Y := ⟨_, rfl⟩
    by_cases hlt : d < j
    · have HXS : Hid (X.size ≤ 1024) := by rw [← hX]; exact (next_small key s HKS.out).1
      have HLn : Hid (leftW (d + 1) ⟨#[]⟩ s0 = (X, s')) := by show _ = _; rw [left_snoc, HLd.out]; simp only; rw [hX, hs']
      rw [hX, hY, hs'] at HNX
      clear hX hY hs'
      go_wp2_with (go_at_call 58; refine HNX.out.mono ?_; rintro e w2 ⟨rfl, hk2, hc2, hf2⟩; have HB2 : Hid (Below w.heap.size w w2) := hf2.toBelow HBd.out (fun i e => by have := H1.out; have := H2.out; omega); have HK2 := hide hk2; have HC2 := hide hc2; clear hk2 hc2 hf2)
      go_roundw
      case rel => exact ⟨d + 1, X, s', by omega, by go_num, HK2.out, HC2.out, HLn.out, HXS.out, HB2.out⟩
      case measure => (simp [intOf] <;> omega)
    · obtain rfl : d = j := by omega
      have HXY : Hid (X = AK ∧ Y = AV) := by
        have h := HAT.out
        rw [HLd.out] at h
        simp only at h
        rw [h] at hX hY
        exact ⟨hX.symm, hY.symm⟩
      rw [hX, hY, hs'] at HNX
      clear hX hY hs'
      go_wp2_with (go_at_call 58; refine HNX.out.mono ?_; rintro e w2 ⟨rfl, hk2, hc2, hf2⟩; have HB2 : Hid (Below w.heap.size w w2) := hf2.toBelow HBd.out (fun i e => by have := H1.out; have := H2.out; omega); clear hk2 hc2 hf2)
      go_ret3
      obtain ⟨rfl, rfl⟩ := HXY.out
      exact ⟨rfl, HB2.out⟩
end Go.Proofs.YthdblnfohbldcaaGreat.Bl
