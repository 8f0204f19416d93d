/-
  The document's own lines.
-/
import Derived.Test.YtmhebaknoginhaaLnLines
import Derived.Test.YtmhebaknoginhaaRowF
namespace Go.Proofs.Ytmhebaknoginhaa.Ln
open Go.ChangeShapes Go.WideShapes Go.ChangeAt Go.RowKit
open Go.Proofs.Ytmhebaknoginhaa.Base Go.Proofs.Ytmhebaknoginhaa.Rf
set_option linter.unusedVariables false
/-- A text as an element. -/
def sf (T : ByteArray) (a k : Nat) : List Value := [.string (ln T (a + k))]
theorem owns_ownf {W : World} {b : Nat} {v : Value} {T : ByteArray} {a n : Nat} (h : OwnS W b v (lns T a n)) : OwnF W b 9 1 v n (sf T a) := by
  refine ownf_of h (lns_len T a n) ?_
  have key : ∀ n, svals (lns T a n) = fcells (sf T a) n := by
    intro n
    induction n with
    | zero => rfl
    | succ n ih => rw [lns_succ, svals_append, ih, fcells_succ]; rfl
  exact key n
/-- A line of the document's: its place, its text, where it ends. -/
def lf3 (T : ByteArray) (k : Nat) : List Value := [.int .i64 (pl T k : Nat), .string (ln T k), .int .i64 (pl T (k + 1) : Nat)]
theorem news (W : World) (xs : List Value) (t : TypeId) (j : Nat) (u : Value) (h : xs[j]? = some u) : (W.alloc (.cells xs.toArray t)).cell? ((⟨W.heap.size, 0, none⟩ : Addr).add j) = some u := by
  have e : (⟨W.heap.size, 0, none⟩ : Addr).add j = ⟨W.heap.size, j, none⟩ := by cases j <;> simp [Addr.add]
  rw [e, World.cell?_alloc_mark]
  simpa using h
theorem infoL : (Try.prog.info? 30).map (fun i => (i.zero, i.size, i.bytes)) = some (some (.agg #[.int .i64 0, .string ⟨#[]⟩, .int .i64 0]), 3, 32) := by kernel_rfl
theorem ln_at (T : ByteArray) (k m : Nat) (hk : k < cnt T) (h1 : pl T k ≤ m) (h2 : m < T.size) (hno : ∀ i, pl T k ≤ i → i < m → bt T i ≠ 10) (hb : bt T m = 10) : pl T (k + 1) = m + 1 ∧ ln T k = T.extract (pl T k) m := by
  have e : pl T (k + 1) = m + 1 := by
    rw [pl_succ]
    exact nx_uniq T _ _ (by omega) (by omega) (fun i h1 h2 => hno i h1 (by omega)) (.inl hb)
  refine ⟨e, ?_⟩
  unfold ln en
  rw [e, Nat.add_sub_cancel, if_pos hb]
theorem ln_last (T : ByteArray) (k : Nat) (hk : k < cnt T) (hno : ∀ i, pl T k ≤ i → i < T.size → bt T i ≠ 10) : pl T (k + 1) = T.size ∧ ln T k = T.extract (pl T k) T.size ∧ k + 1 = cnt T := by
  have hp := pl_lt T k hk
  have e : pl T (k + 1) = T.size := by
    rw [pl_succ]
    exact nx_uniq T _ _ hp (Nat.le_refl _) (fun i h1 h2 => hno i h1 (by omega)) (.inr rfl)
  refine ⟨e, ?_, ?_⟩
  · unfold ln en
    rw [e, if_neg (hno _ (by omega) (by omega))]
  · by_cases h : k + 1 = cnt T
    · exact h
    · have := pl_lt T (k + 1) (by omega); omega
theorem grown_own {w0 w w' : World} {base t z : Nat} {v : Value} {n : Nat} {f : Nat → List Value} (hb : Below w0.heap.size w0 w) (ho : OwnF w base t z v n f) (hbase : w0.heap.size ≤ base) (hg : w.grownBy w' v.ownBlock) : Below w0.heap.size w0 w' :=
  hb.grown hg hb.size (fun k e => by have := ho.lt k e; omega)
set_option maxHeartbeats 4000000 in
set_option maxRecDepth 100000 in
theorem refAll_any (T : ByteArray) (w : World) (hs : T.size ≤ 1099511627776) :
    Calls Try.prog 9 #[.string T] w fun e w' => ∃ v, e = .returned v ∧ OwnF w' w.heap.size 30 3 v (cnt T) (lf3 T) ∧ Below w.heap.size w w' := by
  have hcl := cnt_le T
  go_enter Try.func9, Try.ntmps9
  go_wp2_with fail
  go_loopw [3, 4, 5] (fun l fr i wr => ∃ (v : Value) (k m p : Nat), v = l ∧ k ≤ cnt T ∧ Hid (pl T k = p) ∧ p ≤ m ∧ m ≤ T.size ∧ fr = .int .i64 (p : Int) ∧ i = .int .i64 (m : Int) ∧ Hid (∀ i, p ≤ i → i < m → bt T i ≠ 10) ∧ Hid (OwnF wr w.heap.size 30 3 l k (lf3 T)) ∧ Hid (Below w.heap.size w wr)) (fun _ _ i _ => T.size - (intOf i).toNat)
  case atStart => exact ⟨_, 0, 0, 0, rfl, Nat.zero_le _, rfl, Nat.le_refl _, Nat.zero_le _, rfl, rfl, (fun i _ h => absurd h (Nat.not_lt_zero _)), ownf_none _ _ _ _ _, Below.refl _ _⟩
  case round =>
    obtain ⟨v, k, m, p, rfl, hk, HP, hpm, hmT, rfl, rfl, HNO, HO, HB⟩ := hrel
    have hpi : (p : Int) ≤ (m : Int) := by omega
    have hmi : (m : Int) ≤ (T.size : Int) := by omega
    have hTi : (T.size : Int) ≤ 1099511627776 := by omega
    by_cases hlt : m < T.size
    · have hkc : k < cnt T := by
        by_cases e : k < cnt T
        · exact e
        · have e2 : k = cnt T := by omega
          have := HP.out
          rw [e2, pl_cnt] at this
          omega
      have hml : (m : Int) < (T.size : Int) := by omega
      obtain ⟨c, hc⟩ : ∃ c : Nat, (bt T m).toNat = c := ⟨_, rfl⟩
      have hget : (T[m]'hlt).toNat = c := by rw [← bt_get T m hlt]; exact hc
      have HC := hide hc
      clear hc
      by_cases h10 : c = 10
      · subst h10
        have HL := hide (ln_at T k m hkc (by rw [HP.out]; exact hpm) hlt (by rw [HP.out]; exact HNO.out) ((u8_ten _).1 HC.out))
        have HF : Hid (lf3 T k = [.int .i64 (p : Int), .string (T.extract p m), .int .i64 ((m : Int) + 1)]) := by
          show lf3 T k = _
          unfold lf3
          rw [HL.out.1, HL.out.2, HP.out]
          rfl
        obtain ⟨wa, hwa⟩ : ∃ wa, wr.alloc (.cells #[.int .i64 (p : Int), .string (T.extract p m), .int .i64 ((m : Int) + 1)] 30) = wa := ⟨_, rfl⟩
        have HW : Hid (∀ (j : Nat) (u : Value), (lf3 T k)[j]? = some u → wa.cell? ((⟨wr.heap.size, 0, none⟩ : Addr).add j) = some u) := fun j u h => by rw [HF.out] at h; rw [← hwa]; exact news wr _ _ j u h
        have HBA : Hid (Below wr.heap.size wr wa) := by rw [← hwa]; exact (Below.refl _ _).alloc (Nat.le_refl _) _
        have H1 : Hid (∀ u ∈ lf3 T k, u.oneCell' = true) := by rw [HF.out]; simp [Hid, Value.oneCell']
        have HZ : Hid ((lf3 T k).length = 3) := rfl
        go_wp2_with (at_builtin; refine pushF wa rfl _ _ rfl Try.underlying24 infoL rfl (by omega) (by omega) w.heap.size v k (lf3 T) HZ.out rfl (HO.out.below HBA.out) ⟨wr.heap.size, 0, none⟩ 1 rfl HW.out H1.out (by omega) (by have := HB.out.size; have := HBA.out.size; omega) ?_; intro g' c' w' ho' hg'; have HO2 := hide ho'; have HB2 := hide (grown_own (below_trans HB.out HBA.out) (HO.out.below HBA.out) (Nat.le_refl _) hg'); clear ho' hg')
        go_roundw
        case rel => exact ⟨_, k + 1, m + 1, m + 1, rfl, hkc, HL.out.1, Nat.le_refl _, hlt, by go_num, by go_num, (fun i h1 h2 => by omega), HO2.out, HB2.out⟩
        case measure => simp [intOf]; omega
      · have h10i : ¬ (c : Int) = 10 := by omega
        go_wp2_with fail
        go_roundw
        case rel =>
          refine ⟨_, k, m + 1, p, rfl, hk, HP.out, by omega, hlt, rfl, by go_num, (fun i h1 h2 => ?_), HO.out, HB.out⟩
          by_cases e : i = m
          · rw [e]; exact fun e2 => h10 (HC.out.symm.trans ((u8_ten _).2 e2))
          · exact HNO.out i h1 (by omega)
        case measure => simp [intOf]; omega
    · obtain rfl : m = T.size := by omega
      by_cases hend : p < T.size
      · have hkc : k < cnt T := by
          by_cases e : k < cnt T
          · exact e
          · have e2 : k = cnt T := by omega
            have := HP.out
            rw [e2, pl_cnt] at this
            omega
        have hpl : (p : Int) < (T.size : Int) := by omega
        have HL := hide (ln_last T k hkc (by rw [HP.out]; exact HNO.out))
        have HF : Hid (lf3 T k = [.int .i64 (p : Int), .string (T.extract p T.size), .int .i64 (T.size : Int)]) := by
          show lf3 T k = _
          unfold lf3
          rw [HL.out.1, HL.out.2.1, HP.out]
        obtain ⟨wa, hwa⟩ : ∃ wa, wr.alloc (.cells #[.int .i64 (p : Int), .string (T.extract p T.size), .int .i64 (T.size : Int)] 30) = wa := ⟨_, rfl⟩
        have HW : Hid (∀ (j : Nat) (u : Value), (lf3 T k)[j]? = some u → wa.cell? ((⟨wr.heap.size, 0, none⟩ : Addr).add j) = some u) := fun j u h => by rw [HF.out] at h; rw [← hwa]; exact news wr _ _ j u h
        have HBA : Hid (Below wr.heap.size wr wa) := by rw [← hwa]; exact (Below.refl _ _).alloc (Nat.le_refl _) _
        have H1 : Hid (∀ u ∈ lf3 T k, u.oneCell' = true) := by rw [HF.out]; simp [Hid, Value.oneCell']
        have HZ : Hid ((lf3 T k).length = 3) := rfl
        go_wp2_with (at_builtin; refine pushF wa rfl _ _ rfl Try.underlying24 infoL rfl (by omega) (by omega) w.heap.size v k (lf3 T) HZ.out rfl (HO.out.below HBA.out) ⟨wr.heap.size, 0, none⟩ 1 rfl HW.out H1.out (by omega) (by have := HB.out.size; have := HBA.out.size; omega) ?_; intro g' c' w' ho' hg'; have HO2 := hide ho'; have HB2 := hide (grown_own (below_trans HB.out HBA.out) (HO.out.below HBA.out) (Nat.le_refl _) hg'); clear ho' hg')
        go_ret
        refine ⟨_, rfl, ?_, HB2.out⟩
        rw [← HL.out.2.2]
        exact HO2.out
      · have hpl : ¬ (p : Int) < (T.size : Int) := by omega
        have HK : Hid (k = cnt T) := by
          show k = cnt T
          by_cases e : k < cnt T
          · have := pl_lt T k e
            have := HP.out
            omega
          · omega
        go_wp2_with fail
        go_ret
        refine ⟨_, rfl, ?_, HB.out⟩
        rw [← HK.out]
        exact HO.out
end Go.Proofs.Ytmhebaknoginhaa.Ln
