/-
  The statements' own helpers: bent, all; what joins of built filters are.
-/
import Derived.Test.YtpdlpahpefojbaaDoorFiRoundM
import Derived.Test.YtpdlpahpefojbaaDoorFiWorks
namespace Go.Proofs.YtpdlpahpefojbaaDoor.Filt
open Go.ChangeShapes Go.WideShapes Go.ChangeAt Go.RowKit
open Go.Proofs.YtpdlpahpefojbaaDoor.Base hiding hide unhide lt8
set_option linter.unusedVariables false
set_option maxRecDepth 100000 in
theorem bent_any (n : Int) (w : World) (hw : (Lit.int .i64 n).wf = true) : Calls Tryd.prog 15 #[.int .i64 n] w fun e w' => e = .returned (.int .i64 (n % 17)) ∧ w' = w := by
  have hb := bounds_i64 hw
  by_cases h0 : 0 ≤ n
  · obtain ⟨m, rfl⟩ := Int.eq_ofNat_of_zero_le h0
    obtain ⟨r, hr⟩ : ∃ r : Nat, m % 17 = r := ⟨_, rfl⟩
    have hri : (m : Int) % 17 = (r : Int) := by omega
    have hrl : r ≤ 16 := by omega
    have d1 : decide ((r : Int) < 0) = false := by simp
    have HR := hide hri
    clear hw hr
    go_enter Tryd.func15, Tryd.ntmps15
    go_wp2_with fail
    go_ret
    rw [HR.out]
    exact ⟨rfl, rfl⟩
  · obtain ⟨m, rfl⟩ : ∃ m : Nat, n = -(m : Int) := ⟨n.natAbs, by omega⟩
    obtain ⟨r, hr⟩ : ∃ r : Nat, m % 17 = r := ⟨_, rfl⟩
    have ht : (-(m : Int)).tmod 17 = -(r : Int) := by
      rw [Int.neg_tmod, Int.tmod_eq_emod_of_nonneg (by omega)]; omega
    have hrl : r ≤ 16 := by omega
    have hwr : IntKind.i64.wrap (-(r : Int)) = -(r : Int) := by rw [IntKind.wrap_i64]; omega
    by_cases hz : r = 0
    · have HR : Hid ((-(m : Int)) % 17 = 0) := by show _ = _; omega
      subst hz
      have ht0 : (-(m : Int)).tmod 17 = 0 := by rw [ht]; rfl
      clear hw hr ht hwr
      go_enter Tryd.func15, Tryd.ntmps15
      go_wp2_with fail
      go_ret
      rw [HR.out]
      exact ⟨rfl, rfl⟩
    · have HR : Hid ((-(m : Int)) % 17 = 17 - (r : Int)) := by show _ = _; omega
      have d1 : decide (-(r : Int) < 0) = true := by simpa using (by omega : 0 < r)
      clear hw hr
      go_enter Tryd.func15, Tryd.ntmps15
      go_wp2_with fail
      go_ret
      rw [HR.out]
      exact ⟨ret_int (by omega), rfl⟩
/-- What Has says of a filter. -/
def hasW (f : Fw) (s : ByteArray) : Bool := hasF f.all f.hashes f.data s
set_option maxHeartbeats 1000000 in
set_option maxRecDepth 100000 in
theorem all_any (A : Bool) (H : Int) (a : Option Addr) (len cap : Nat) (bs : List (BitVec 8)) (k : Option Addr) (n c : Nat) (ss : List ByteArray) (w : World) (hK : KAt w) (hr : Rd w a len bs) (hl : len ≤ 140737488351232) (hs : RdS w k n ss) (hall : ∀ s ∈ ss, hasF A H bs s = true) :
    Calls Tryd.prog 29 #[.agg #[.bool A, .int .i64 H, .slice a len cap], .slice k n c] w fun e w' => e = .returned (.bool true) ∧ Below w.heap.size w w' := by
  obtain ⟨w1, hw1⟩ : ∃ w1, w.alloc (.cells #[.bool A, .int .i64 H, .slice a len cap] 24) = w1 := ⟨_, rfl⟩
  have hb1 : Below w.heap.size w w1 := by rw [← hw1]; exact (Below.refl _ _).alloc (Nat.le_refl _) _
  have hF : FB w1 w.heap.size A H (.slice a len cap) := by rw [← hw1]; exact FB.new _ _ _ _
  obtain ⟨p, hp0⟩ : ∃ p, w.heap.size = p := ⟨_, rfl⟩
  rw [hp0] at hF
  have HF := hide hF
  have HS := hide hp0
  have HB1 := hide hb1
  have HKW := hide hK
  have HR := hide hr
  have HSS := hide hs
  have HL := hide hs.1
  have HA := hide hall
  have hnm : n ≤ 140737488355328 := hs.2.1
  clear hK hr hs hall hF hb1
  go_enter Tryd.func29, Tryd.ntmps29
  go_wp2_with fail
  go_loopw [5] (fun i wr => ∃ j : Nat, j ≤ n ∧ i = .int .i64 (j : Int) ∧ Hid (FB wr p A H (.slice a len cap)) ∧ Hid (Below w.heap.size w wr)) (fun i _ => n - (intOf i).toNat)
  case atStart => exact ⟨0, Nat.zero_le _, rfl, HF, HB1⟩
  case round =>
    clear HF HB1
    obtain ⟨j, hj, rfl, HFr, HBr⟩ := hrel
    by_cases hlt : j < n
    · have hji : (j : Int) < (n : Int) := by omega
      have HSr := hide (HSS.out.below HBr.out)
      obtain ⟨kb, koff, rfl, hkb, hcell⟩ := HSr.out.2.2.2 (by omega)
      have kc := hcell j hlt
      have HSZ := hide (HSr.out.2.2.1 _ (getS_mem (i := j) (by rw [HL.out]; exact hlt)))
      have HT := hide (HA.out _ (getS_mem (i := j) (by rw [HL.out]; exact hlt)))
      have hkb2 := hkb
      generalize ss.getD j ⟨#[]⟩ = s at kc HSZ HT
      clear hcell hkb
      have f0 := HFr.out.c0
      have f1 := HFr.out.c1
      have f2 := HFr.out.c2
      have HKL : Hid (kb < wr.heap.size) := hkb2
      have HHC : Hid (∀ W, Below wr.heap.size wr W → Calls Tryd.prog 19 #[.agg #[.bool A, .int .i64 H, .slice a len cap], .string s] W fun e w' => e = .returned (.bool true) ∧ Below wr.heap.size wr w') := fun W hW =>
        (has_any A H a len cap bs s W (kat_below HKW.out (below_trans HBr.out hW)) (HR.out.below (below_trans HBr.out hW)) hl HSZ.out).mono fun e w' ⟨h1, h2⟩ => ⟨by rw [h1, HT.out], hW.trans (h2.mono hW.size)⟩
      have HKC := hide kc
      go_wp2_with fail
      go_region_held (fun V => V.cell? ⟨p, 0, none⟩ = some (.bool A) ∧ V.cell? ⟨p, 1, none⟩ = some (.int .i64 H) ∧ V.cell? ⟨p, 2, none⟩ = some (.slice a len cap) ∧ V.cell? ⟨kb, koff + j, none⟩ = some (.string s)) (first | go_keep | exact E8.out) (first
        | (go_at_call 19; refine (HHC.out _ ((Below.refl _ _).drew)).mono ?_; rintro e w6 ⟨rfl, hb6⟩; have HB6 := hide hb6; have E8 := hide (And.intro (HFr.out.below hb6).c0 (And.intro (HFr.out.below hb6).c1 (And.intro (HFr.out.below hb6).c2 ((hb6.cell (p := ⟨kb, koff + j, none⟩) HKL.out).trans HKC.out)))); clear hb6))
      all_goals
        go_wp2_with fail
        go_roundw
        case rel => exact ⟨j + 1, by omega, by go_num, HFr.out.below HB6.out, below_trans HBr.out HB6.out⟩
        case measure => simp [intOf]; omega
    · have hjn : j = n := by omega
      subst hjn
      have hji : ¬ (j : Int) < (j : Int) := by omega
      go_wp2_with fail
      go_ret
      exact ⟨rfl, by first | exact HBr.out | (rw [← HS.out]; exact HBr.out)⟩
theorem built_ok (ss : List ByteArray) (b : Int) (h0 : 0 ≤ b) (h1 : b ≤ 16) : (builtF ss b).2 = 0 ∧ (builtF ss b).1.kind ≠ 3 ∧ ∀ s ∈ ss, hasW (builtF ss b).1 s = true := by
  unfold builtF
  rw [if_neg (by omega)]
  by_cases hl : ss.length = 0
  · rw [if_pos hl]
    have hs := List.length_eq_zero_iff.1 hl
    subst hs
    exact ⟨rfl, by decide, fun s h => absurd h List.not_mem_nil⟩
  · rw [if_neg hl]
    by_cases hb : b = 0 ∨ 65536 < ss.length
    · rw [if_pos hb]
      refine ⟨rfl, by decide, fun s _ => ?_⟩
      show hasF true 0 [] s = true
      unfold hasF
      rw [show kindN true 0 ([] : List (BitVec 8)).length = 1 by decide]
      rfl
    · rw [if_neg hb]
      have hh := hashesOf_le b.toNat
      have hp := bytesOfK_pos (ss.length * b.toNat)
      have hlen : (laidBits ss (hashesOf b.toNat) (List.replicate (bytesOfK (ss.length * b.toNat)) 0)).length = bytesOfK (ss.length * b.toNat) := by rw [laidBits_len, List.length_replicate]
      have hk : (⟨false, (hashesOf b.toNat : Nat), laidBits ss (hashesOf b.toNat) (List.replicate (bytesOfK (ss.length * b.toNat)) 0)⟩ : Fw).kind = 2 := kind_of_two (by omega) (by omega) (by rw [hlen]; omega) (by rw [hlen]; omega)
      refine ⟨rfl, by show Fw.kind _ ≠ 3; rw [hk]; omega, fun s hs => ?_⟩
      show hasF false ((hashesOf b.toNat : Nat) : Int) (laidBits ss (hashesOf b.toNat) (List.replicate (bytesOfK (ss.length * b.toNat)) 0)) s = true
      unfold hasF
      have hk' : kindN false ((hashesOf b.toNat : Nat) : Int) (laidBits ss (hashesOf b.toNat) (List.replicate (bytesOfK (ss.length * b.toNat)) 0)).length = 2 := hk
      rw [hk', if_neg (by omega), if_pos rfl, Int.toNat_natCast]
      exact laid_has ss _ _ (by rw [List.length_replicate]; exact hp.1) s hs
theorem enc_ok (f : Fw) (h : f.kind ≠ 3) : (encF f).2 = 0 := by
  rcases kind_cases f with rfl | rfl | h2 | h3
  · rfl
  · rfl
  · unfold encF
    rw [if_neg (by rw [h2]; omega), if_neg (by rw [h2]; omega), if_pos h2]
  · exact absurd h3 h
theorem joined_comm (f g : Fw) : joined f g = joined g f := by
  unfold joined
  by_cases h3 : f.kind = 3 ∨ g.kind = 3
  · rw [if_pos h3, if_pos h3.symm]
  · have h3' : ¬ (g.kind = 3 ∨ f.kind = 3) := fun h => h3 h.symm
    rw [if_neg h3, if_neg h3']
    by_cases h1 : f.kind = 1 ∨ g.kind = 1
    · rw [if_pos h1, if_pos h1.symm]
    · have h1' : ¬ (g.kind = 1 ∨ f.kind = 1) := fun h => h1 h.symm
      rw [if_neg h1, if_neg h1']
      by_cases hf : f.kind = 0
      · rw [if_pos hf]
        by_cases hg : g.kind = 0
        · rw [if_pos hg]
          have e1 := fw_zero (A := f.all) (H := f.hashes) (xs := f.data) hf
          have e2 := fw_zero (A := g.all) (H := g.hashes) (xs := g.data) hg
          have e3 : f = g := by
            obtain ⟨fa, fh, fd⟩ := f
            obtain ⟨ga, gh, gd⟩ := g
            simp only at e1 e2
            rw [e1, e2]
          rw [e3]
        · rw [if_neg hg, if_pos hf]
      · rw [if_neg hf]
        by_cases hg : g.kind = 0
        · rw [if_pos hg, if_pos hg]
        · rw [if_neg hg, if_neg hg, if_neg hf]
          by_cases hne : f.hashes ≠ g.hashes ∨ f.data.length ≠ g.data.length
          · rw [if_pos hne, if_pos (by rcases hne with h | h; exact .inl (Ne.symm h); exact .inr (Ne.symm h))]
          · have e1 : f.hashes = g.hashes := by by_cases h : f.hashes = g.hashes; exact h; exact absurd (.inl h) hne
            have e2 : f.data.length = g.data.length := by by_cases h : f.data.length = g.data.length; exact h; exact absurd (.inr h) hne
            rw [if_neg hne, if_neg (by rw [e1, e2]; simp), e1, orZip_comm _ _ e2]
theorem joined_err (f g : Fw) (hf : f.kind ≠ 3) (hg : g.kind ≠ 3) : (joined f g).2 = 0 ∨ (joined f g).2 = 3 := by
  unfold joined
  rw [if_neg (by rintro (h | h); exact hf h; exact hg h)]
  repeat' split
  all_goals first | exact .inl rfl | exact .inr rfl
theorem kind_two {f : Fw} (h3 : f.kind ≠ 3) (h1 : f.kind ≠ 1) (h0 : f.kind ≠ 0) : f.kind = 2 := by
  rcases kind_cases f with rfl | rfl | h | h
  · exact absurd (by decide) h0
  · exact absurd (by decide) h1
  · exact h
  · exact absurd h h3
theorem joined_has (f g : Fw) (hf : f.kind ≠ 3) (hg : g.kind ≠ 3) (he : (joined f g).2 = 0) (s : ByteArray) (hs : hasW f s = true) : hasW (joined f g).1 s = true := by
  unfold joined at he ⊢
  rw [if_neg (by rintro (h | h); exact hf h; exact hg h)] at he ⊢
  by_cases h1 : f.kind = 1 ∨ g.kind = 1
  · rw [if_pos h1]
    show hasF true 0 [] s = true
    unfold hasF
    rw [show kindN true 0 ([] : List (BitVec 8)).length = 1 by decide]
    rfl
  · rw [if_neg h1] at he ⊢
    by_cases hf0 : f.kind = 0
    · exfalso
      have e1 := fw_zero (A := f.all) (H := f.hashes) (xs := f.data) hf0
      obtain ⟨fa, fh, fd⟩ := f
      simp only at e1
      rw [e1] at hs
      have : hasW ⟨false, 0, []⟩ s = false := has_none s
      rw [this] at hs
      cases hs
    · rw [if_neg hf0] at he ⊢
      by_cases hg0 : g.kind = 0
      · rw [if_pos hg0]; exact hs
      · rw [if_neg hg0] at he ⊢
        by_cases hne : f.hashes ≠ g.hashes ∨ f.data.length ≠ g.data.length
        · rw [if_pos hne] at he; exact absurd he (by decide)
        · rw [if_neg hne]
          have k2 := kind_two hf (fun h => h1 (.inl h)) hf0
          obtain ⟨g1, g2, g3, g4, g5⟩ := fw_two k2
          have e2 : f.data.length = g.data.length := by by_cases h : f.data.length = g.data.length; exact h; exact absurd (.inr h) hne
          show hasF false f.hashes (orZip f.data g.data) s = true
          have hs2 : hasF false f.hashes f.data s = true := by unfold hasW at hs; rw [g1] at hs; exact hs
          have hk : kindN false f.hashes f.data.length = 2 := by unfold Fw.kind at k2; rw [g1] at k2; exact k2
          unfold hasF at hs2 ⊢
          rw [hk, if_neg (by omega), if_pos rfl] at hs2
          rw [orZip_len _ _ e2, hk, if_neg (by omega), if_pos rfl]
          exact or_has_left _ _ e2 (by omega) s _ hs2
theorem joined_self (f : Fw) (hf : f.kind ≠ 3) : joined f f = (f, 0) := by
  unfold joined
  rw [if_neg (by rintro (h | h) <;> exact hf h)]
  rcases kind_cases f with rfl | rfl | h | h
  · rfl
  · rfl
  · obtain ⟨g1, _⟩ := fw_two h
    rw [if_neg (by rw [h]; omega), if_neg (by rw [h]; omega), if_neg (by rw [h]; omega), if_neg (by simp), orZip_self]
    obtain ⟨fa, fh, fd⟩ := f
    simp only at g1
    rw [g1]
  · exact absurd h hf
end Go.Proofs.YtpdlpahpefojbaaDoor.Filt
