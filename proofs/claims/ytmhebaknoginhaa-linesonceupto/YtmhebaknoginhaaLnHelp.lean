/-
  The statements' own: sameTexts, spoilt.
-/
import Derived.Test.YtmhebaknoginhaaLnRef2
namespace Go.Proofs.Ytmhebaknoginhaa.Ln
open Go.ChangeShapes Go.WideShapes Go.ChangeAt Go.RowKit
open Go.Proofs.Ytmhebaknoginhaa.Base Go.Proofs.Ytmhebaknoginhaa.Rf
set_option linter.unusedVariables false
set_option linter.unusedSimpArgs false
set_option maxHeartbeats 2000000 in
set_option maxRecDepth 100000 in
theorem same_true (n : Nat) (s : Nat → ByteArray) (a b : Option Addr) (ca cb : Nat) (w : World) (hn : n ≤ 4611686018427387904) (ha : RdF w a 1 n (fun k => [.string (s k)])) (hb : RdF w b 1 n (fun k => [.string (s k)])) :
    Calls Try.prog 15 #[.slice a n ca, .slice b n cb] w fun e w' => e = .returned (.bool true) ∧ Below w.heap.size w w' := by
  have HA := hide ha
  have HB := hide hb
  clear ha hb
  go_enter Try.func15, Try.ntmps15
  go_wp2_with fail
  go_loopw [5] (fun i wr => ∃ k : Nat, k ≤ n ∧ i = .int .i64 (k : Int) ∧ Hid (Below w.heap.size w wr)) (fun i _ => n - (intOf i).toNat)
  case atStart => exact ⟨0, Nat.zero_le _, rfl, Below.refl _ _⟩
  case round =>
    obtain ⟨k, hk, rfl, HW⟩ := hrel
    by_cases hlt : k < n
    · have hki : (k : Int) < (n : Int) := by omega
      obtain ⟨b1, o1, rfl, hl1, hc1⟩ := HA.out.below HW.out (by omega)
      obtain ⟨b2, o2, rfl, hl2, hc2⟩ := HB.out.below HW.out (by omega)
      have e1 := hc1 k 0 _ hlt rfl (by omega)
      have e2 := hc2 k 0 _ hlt rfl (by omega)
      rw [Nat.mul_one, Nat.add_zero] at e1 e2
      clear hc1 hc2
      generalize s k = S at e1 e2
      go_wp2_with fail
      go_quiet (fail)
      go_wp2_with fail
      go_roundw
      case rel => exact ⟨k + 1, hlt, by go_num, below_trans HW.out (below_drewN' _ _ _)⟩
      case measure => simp [intOf]; omega
    · obtain rfl : n = k := by omega
      go_wp2_with fail
      go_ret
      exact ⟨rfl, HW.out⟩
/-- What 'append' and stores do to memory that holds the list v, from the world w on: other blocks that were there stay. -/
def Turns (w W : World) (v u : Value) : Prop := w.grownBy W v.ownBlock ∧ (u.ownBlock = v.ownBlock ∨ ∀ i, u.ownBlock = some i → w.heap.size ≤ i)
theorem Turns.refl (w : World) (v : Value) : Turns w w v v := ⟨World.grownBy.refl _ _, .inl rfl⟩
theorem Turns.step {w W W' : World} {v u u' : Value} (h : Turns w W v u) (hu : u'.ownBlock = u.ownBlock ∧ W.grownBy W' u.ownBlock ∨ (∀ i, u'.ownBlock = some i → W.heap.size ≤ i) ∧ W.grownBy W' none) : Turns w W' v u' := by
  obtain ⟨h1, h2⟩ := h
  rcases hu with ⟨e, g⟩ | ⟨e, g⟩
  · refine ⟨⟨g.os.trans h1.os, g.tape.trans h1.tape, g.output.trans h1.output, Nat.le_trans h1.size g.size, fun i hi hne => ?_⟩, ?_⟩
    · refine (g.block i (Nat.lt_of_lt_of_le hi h1.size) ?_).trans (h1.block i hi hne)
      rcases h2 with h2 | h2
      · rw [h2]; exact hne
      · intro e2; have := h2 i e2.symm; omega
    · rcases h2 with h2 | h2
      · exact .inl (e.trans h2)
      · exact .inr (fun i hi => h2 i (by rw [← e]; exact hi))
  · refine ⟨⟨g.os.trans h1.os, g.tape.trans h1.tape, g.output.trans h1.output, Nat.le_trans h1.size g.size, fun i hi hne => (g.block i (Nat.lt_of_lt_of_le hi h1.size) (by simp)).trans (h1.block i hi hne)⟩, .inr (fun i hi => ?_)⟩
    have := e i hi
    have := h1.size
    omega
theorem ownf_store1 {w : World} {base t g n c : Nat} {m : Nat} {f : Nat → List Value} (h : OwnF w base t 1 (.slice (some ⟨g, 0, none⟩) m c) n f) (hf : ∀ k, (f k).length = 1) (k : Nat) (x : Value) (hk : k < n) :
    OwnF (w.setCell ⟨g, k, none⟩ x) base t 1 (.slice (some ⟨g, 0, none⟩) m c) n (setF f k [x]) ∧ w.grownBy (w.setCell ⟨g, k, none⟩ x) (some g) := by
  have hn : m = n := by
    rcases h.2 with ⟨h1, _⟩ | ⟨_, _, _, h1, _⟩
    · simp at h1
    · simp at h1; exact h1.2.1
  subst hn
  have h1 := World.ownsRow.stored h k x
  refine ⟨ownf_of h1.1 rfl ?_, h1.2⟩
  apply List.ext_getElem?
  intro i
  have hs : ∀ j, (setF f k [x] j).length = 1 := fun j => by unfold setF; by_cases e : j = k <;> simp [e, hf]
  by_cases hi : i < m
  · have e1 := fcells_get hs m i 0 hi (by omega)
    have e2 := fcells_get hf m i 0 hi (by omega)
    rw [Nat.mul_one, Nat.add_zero] at e1 e2
    rw [e1, List.getElem?_set]
    unfold setF
    by_cases e : k = i
    · subst e
      rw [if_pos rfl, if_pos (by rw [fcells_len hf]; omega), if_pos rfl]
      rfl
    · rw [if_neg e, if_neg (fun h => e h.symm), e2]
  · rw [List.getElem?_eq_none (by rw [List.length_set, fcells_len hf]; omega), List.getElem?_eq_none (by rw [fcells_len hs]; omega)]
theorem setF_len {f : Nat → List Value} {z : Nat} (hf : ∀ k, (f k).length = z) (k : Nat) (x : List Value) (hx : x.length = z) : ∀ j, (setF f k x j).length = z := fun j => by unfold setF; by_cases e : j = k <;> simp [e, hf, hx]
theorem setF_one {f : Nat → List Value} (hf : ∀ k, ∀ u ∈ f k, u.oneCell' = true) (k : Nat) (x : List Value) (hx : ∀ u ∈ x, u.oneCell' = true) : ∀ j, ∀ u ∈ setF f k x j, u.oneCell' = true := fun j => by unfold setF; by_cases e : j = k <;> simp only [e, if_pos, if_neg, if_true, if_false] <;> first | exact hx | exact hf j
set_option maxHeartbeats 4000000 in
set_option maxRecDepth 100000 in
theorem spoilt_any (base n : Nat) (f : Nat → List Value) (v : Value) (w : World) (hn : n ≤ 1099511627776) (hf : ∀ k, (f k).length = 1) (hf1 : ∀ k, ∀ u ∈ f k, u.oneCell' = true) (ho : OwnF w base 9 1 v n f) (hbase : base ≤ w.heap.size) :
    Calls Try.prog 12 #[v] w fun e w' => e = .returned (.int .i64 ((n : Int) + 64)) ∧ w.grownBy w' v.ownBlock := by
  obtain ⟨a, c, hv, hnc, hnil, hsome⟩ := ho.shape
  obtain ⟨v0, hv0⟩ : ∃ v0, v0 = v := ⟨_, rfl⟩
  rw [← hv0]
  have HV0 := hide hv0
  clear hv0
  subst hv
  rw [HV0.out]
  have HO := hide ho
  clear ho
  go_enter Try.func12, Try.ntmps12
  go_wp2_with fail
  go_loopw [3] (fun i wr => ∃ (k : Nat) (h : Nat → List Value), k ≤ n ∧ i = .int .i64 (k : Int) ∧ Hid (∀ k, (h k).length = 1) ∧ Hid (∀ k, ∀ u ∈ h k, u.oneCell' = true) ∧ Hid (OwnF wr base 9 1 (.slice a n c) n h) ∧ Hid (Turns w wr (.slice a n c) (.slice a n c))) (fun i _ => n - (intOf i).toNat)
  case atStart => exact ⟨0, f, Nat.zero_le _, rfl, hf, hf1, HO.out, Turns.refl _ _⟩
  case round =>
    obtain ⟨k, h, hk, rfl, HF, HF1, HO1, HT⟩ := hrel
    by_cases hlt : k < n
    · have hki : (k : Int) < (n : Int) := by omega
      obtain ⟨g, c', e, _, _, _⟩ := HO1.out.has (by omega)
      simp only [Value.slice.injEq] at e
      obtain ⟨rfl, _, rfl⟩ := e
      have cz : ∃ u, wr.cell? ⟨g, k, none⟩ = some u := by
        obtain ⟨u, hu⟩ : ∃ u, h k = [u] := List.length_eq_one_iff.1 (HF.out k)
        have := HO1.out.cellAt HF.out k 0 u hlt (by omega) (by rw [hu]; rfl)
        rw [Nat.mul_one, Nat.add_zero] at this
        exact ⟨u, this⟩
      obtain ⟨u, cu⟩ := cz
      have fz := HO1.out.frozenAt k
      have HS := hide (ownf_store1 HO1.out HF.out k (.string ⟨#[115, 112, 111, 105, 108, 116]⟩) hlt)
      go_wp2_with fail
      go_roundw
      case rel => exact ⟨k + 1, _, hlt, by go_num, setF_len HF.out k _ rfl, setF_one HF1.out k _ (by simp [Value.oneCell']), HS.out.1, HT.out.step (.inl ⟨rfl, HS.out.2⟩)⟩
      case measure => simp [intOf]; omega
    · obtain rfl : n = k := by omega
      clear hlt hk
      go_wp2_with fail
      go_loopw [0, 4] (fun l i wr2 => ∃ (u : Value) (k : Nat) (h2 : Nat → List Value), u = l ∧ k ≤ 64 ∧ i = .int .i64 (k : Int) ∧ Hid (∀ k, (h2 k).length = 1) ∧ Hid (∀ k, ∀ u ∈ h2 k, u.oneCell' = true) ∧ Hid (OwnF wr2 base 9 1 u (n + k) h2) ∧ Hid (Turns w wr2 (.slice a n c) u)) (fun _ i _ => 64 - (intOf i).toNat)
      case atStart => exact ⟨_, 0, h, rfl, Nat.zero_le _, rfl, HF.out, HF1.out, HO1.out, HT.out⟩
      case round =>
        obtain ⟨u, k, h2, rfl, hk, rfl, HF2, HF3, HO2, HT2⟩ := hrel
        by_cases hlt : k < 64
        · have hki : (k : Int) < 64 := by omega
          obtain ⟨wa, hwa⟩ : ∃ wa, wr.alloc (.cells #[.string ⟨#[109, 111, 114, 101]⟩] 9) = wa := ⟨_, rfl⟩
          have HBA : Hid (Below wr.heap.size wr wa) := by rw [← hwa]; exact (Below.refl _ _).alloc (Nat.le_refl _) _
          have HFE : Hid (setF h2 (n + k) [.string ⟨#[109, 111, 114, 101]⟩] (n + k) = [.string ⟨#[109, 111, 114, 101]⟩]) := by show setF _ _ _ _ = _; unfold setF; rw [if_pos rfl]
          have HW : Hid (∀ (j : Nat) (u : Value), (setF h2 (n + k) [.string ⟨#[109, 111, 114, 101]⟩] (n + k))[j]? = some u → wa.cell? ((⟨wr.heap.size, 0, none⟩ : Addr).add j) = some u) := fun j u h => by rw [HFE.out] at h; rw [← hwa]; exact news wr _ _ j u h
          have HL := hide (setF_len HF2.out (n + k) [.string ⟨#[109, 111, 114, 101]⟩] rfl)
          have H1 := hide (setF_one HF3.out (n + k) [.string ⟨#[109, 111, 114, 101]⟩] (by simp [Value.oneCell']))
          have HOA : Hid (OwnF wa base 9 1 u (n + k) (setF h2 (n + k) [.string ⟨#[109, 111, 114, 101]⟩])) := (HO2.out.below HBA.out).congr (fun j hj => by unfold setF; rw [if_neg (by omega)])
          have HTA : Hid (Turns w wa (.slice a n c) u) := by
            have h1 := HT2.out
            exact ⟨⟨HBA.out.os.trans h1.1.os, HBA.out.tape.trans h1.1.tape, HBA.out.output.trans h1.1.output, Nat.le_trans h1.1.size HBA.out.size, fun i hi hne => (HBA.out.block i (Nat.lt_of_lt_of_le hi h1.1.size)).trans (h1.1.block i hi hne)⟩, h1.2⟩
          go_wp2_with (at_builtin; refine pushF2 wa rfl _ _ rfl Try.underlying34 infoSt rfl (by omega) (by omega) base u (n + k) (setF h2 (n + k) [.string ⟨#[109, 111, 114, 101]⟩]) (fun j _ => HL.out j) (fun j _ => H1.out j) (HL.out _) rfl HOA.out ⟨wr.heap.size, 0, none⟩ 1 rfl HW.out (H1.out _) (by omega) (by have := HTA.out.1.size; omega) ?_; intro g' c' w' ho' hg'; have HO3 := hide ho'; have HG3 := hide hg'; clear ho' hg')
          go_roundw
          case rel =>
            refine ⟨_, k + 1, _, rfl, hlt, by go_num, HL.out, H1.out, HO3.out, HTA.out.step ?_⟩
            rcases HG3.out with ⟨e, g⟩ | ⟨e, g⟩
            · left; exact ⟨e.symm, by rw [e]; exact g⟩
            · right; exact ⟨(fun i hi => by cases hi; exact e), g⟩
          case measure => simp [intOf]; omega
        · obtain rfl : k = 64 := by omega
          obtain ⟨a2, c2, e2, _⟩ := HO2.out.shape
          subst e2
          go_wp2_with fail
          go_ret
          exact ⟨ret_int (by omega), HT2.out.1⟩
end Go.Proofs.Ytmhebaknoginhaa.Ln
