/-
  The document's Lines and Of.
-/
import Derived.Test.YtmhebaknoginhaaLnOf
namespace Go.Proofs.Ytmhebaknoginhaa.Ln
open Go.ChangeShapes Go.WideShapes Go.ChangeAt Go.RowKit
open Go.Proofs.Ytmhebaknoginhaa.Base Go.Proofs.Ytmhebaknoginhaa.Rf
set_option linter.unusedVariables false
theorem infoSt : (Try.prog.info? 9).map (fun i => (i.zero, i.size, i.bytes)) = some (some (.string ⟨#[]⟩), 1, 16) := by kernel_rfl
theorem lf3_len (T : ByteArray) (k : Nat) : (lf3 T k).length = 3 := rfl
set_option maxHeartbeats 2000000 in
set_option maxRecDepth 100000 in
theorem refLines_any (T : ByteArray) (w : World) (hs : T.size ≤ 1099511627776) :
    Calls Try.prog 16 #[.string T] w fun e w' => ∃ v, e = .returned v ∧ OwnF w' w.heap.size 9 1 v (cnt T) (sf T 0) ∧ Below w.heap.size w w' := by
  have hcl := cnt_le T
  have HRA := hide (refAll_any T w hs)
  go_enter Try.func16, Try.ntmps16
  go_wp2_with (go_at_call 9; refine HRA.out.mono ?_; rintro e w1 ⟨va, rfl, ho1, hb1⟩; obtain ⟨aa, ca, rfl, hac, _, _⟩ := ho1.shape; have HO1 := hide ho1; have HB1 := hide hb1; clear ho1 hb1)
  go_loopw [3, 5] (fun l i wr => ∃ (v : Value) (k : Nat), v = l ∧ k ≤ cnt T ∧ i = .int .i64 (k : Int) ∧ Hid (OwnF wr w1.heap.size 9 1 v k (sf T 0)) ∧ Hid (Below w1.heap.size w1 wr)) (fun _ i _ => cnt T - (intOf i).toNat)
  case atStart => exact ⟨_, 0, rfl, Nat.zero_le _, rfl, ownf_none _ _ _ _ _, Below.refl _ _⟩
  case round =>
    obtain ⟨v, k, rfl, hk, rfl, HO, HB⟩ := hrel
    by_cases hlt : k < cnt T
    · obtain ⟨g, c, hv, _, _, hgl⟩ := HO1.out.has (by omega)
      simp only [Value.slice.injEq] at hv
      obtain ⟨rfl, _, rfl⟩ := hv
      have hki : (k : Int) < (cnt T : Int) := by omega
      have c1 : wr.cell? ⟨g, k * 3 + 1, none⟩ = some (.string (ln T k)) := (HO1.out.below HB.out).cellAt (lf3_len T) k 1 _ hlt (by omega) rfl
      have HF : Hid (sf T 0 k = [.string (ln T k)]) := by show sf T 0 k = _; unfold sf; rw [Nat.zero_add]
      obtain ⟨L, hL⟩ : ∃ L, ln T k = L := ⟨_, rfl⟩
      rw [hL] at c1 HF
      clear hL
      obtain ⟨wa, hwa⟩ : ∃ wa, wr.alloc (.cells #[.string L] 9) = wa := ⟨_, rfl⟩
      have HW : Hid (∀ (j : Nat) (u : Value), (sf T 0 k)[j]? = some u → wa.cell? ((⟨wr.heap.size, 0, none⟩ : Addr).add j) = some u) := fun j u h => by rw [HF.out] at h; rw [← hwa]; exact news wr _ _ j u h
      have HBA : Hid (Below wr.heap.size wr wa) := by rw [← hwa]; exact (Below.refl _ _).alloc (Nat.le_refl _) _
      have H1 : Hid (∀ u ∈ sf T 0 k, u.oneCell' = true) := by rw [HF.out]; simp [Hid, Value.oneCell']
      go_wp2_with (at_builtin; refine pushF wa rfl _ _ rfl Try.underlying34 infoSt rfl (by omega) (by omega) w1.heap.size v k (sf T 0) rfl rfl (HO.out.below HBA.out) ⟨wr.heap.size, 0, none⟩ 1 rfl HW.out H1.out (by omega) (by have := HB.out.size; have := HBA.out.size; omega) ?_; intro g' c' w' ho' hg'; have HO2 := hide ho'; have HB2 := hide (grown_own (below_trans HB.out HBA.out) (HO.out.below HBA.out) (Nat.le_refl _) hg'); clear ho' hg')
      go_roundw
      case rel => exact ⟨_, k + 1, rfl, hlt, by go_num, HO2.out, HB2.out⟩
      case measure => simp [intOf]; omega
    · obtain rfl : cnt T = k := by omega
      go_wp2_with fail
      go_ret
      exact ⟨_, rfl, HO.out.mono HB1.out.size, below_trans HB1.out HB.out⟩
/-- How many of the lines ahead of number i lie in the piece. -/
theorem piece_step (T : ByteArray) (f t i : Nat) (hi : i < cnt T) : (f ≤ pl T i ∧ pl T i < t → min (i + 1) (ix T t) - ix T f = min i (ix T t) - ix T f + 1 ∧ ix T f + (min i (ix T t) - ix T f) = i) ∧ (¬ (f ≤ pl T i ∧ pl T i < t) → min (i + 1) (ix T t) - ix T f = min i (ix T t) - ix T f) := by
  constructor
  · rintro ⟨h1, h2⟩
    have g1 : ix T f ≤ i := by
      by_cases e : ix T f ≤ i
      · exact e
      · have := ix_lt T f i (by omega); omega
    have g2 : i < ix T t := by
      by_cases e : i < ix T t
      · exact e
      · have := ix_ge T t i (by omega) hi; omega
    omega
  · intro h
    by_cases h1 : f ≤ pl T i
    · have g2 : ix T t ≤ i := by
        by_cases e : ix T t ≤ i
        · exact e
        · have := ix_lt T t i (by omega); omega
      omega
    · have g1 : i < ix T f := by
        by_cases e : i < ix T f
        · exact e
        · have := ix_ge T f i (by omega) hi; omega
      omega
set_option maxHeartbeats 4000000 in
set_option maxRecDepth 100000 in
theorem refOf_ok (T : ByteArray) (f t : Nat) (w : World) (hs : T.size ≤ 4194304) (h : f ≤ t) (ht : t ≤ T.size) :
    Calls Try.prog 14 #[.string T, .agg #[.int .i64 (f : Int), .int .i64 (t : Int)]] w fun e w' => ∃ v, e = .returned (.tuple #[v, .int .i64 0]) ∧ OwnF w' w.heap.size 9 1 v (ix T t - ix T f) (sf T (ix T f)) ∧ Below w.heap.size w w' := by
  have hcl := cnt_le T
  obtain ⟨w0, hw0⟩ : ∃ w0, w.alloc (.cells #[.int .i64 (f : Int), .int .i64 (t : Int)] 33) = w0 := ⟨_, rfl⟩
  have HB0 : Hid (Below w.heap.size w w0) := by rw [← hw0]; exact (Below.refl _ _).alloc (Nat.le_refl _) _
  have HC0 : Hid (w0.heap[w.heap.size]? = some (.cells #[.int .i64 (f : Int), .int .i64 (t : Int)] 33)) := by rw [← hw0]; exact World.alloc_heap_new _ _
  have HLT : Hid (w.heap.size < w0.heap.size) := by rw [← hw0]; simp [Hid]
  obtain ⟨b, hb⟩ : ∃ b, w.heap.size = b := ⟨_, rfl⟩
  rw [hb] at HC0 HLT
  obtain ⟨c0, c1⟩ := cell2 HC0.out
  have HRA := hide (refAll_any T w0 (by omega))
  have hfn : ¬ (f : Int) < 0 := by omega
  have hft : (f : Int) ≤ (t : Int) := by omega
  have hti : (t : Int) ≤ (T.size : Int) := by omega
  have hsi : (T.size : Int) ≤ 4194304 := by omega
  have hfi : (0 : Int) ≤ (f : Int) := by omega
  have HSZ := hide hb
  go_enter Try.func14, Try.ntmps14
  go_wp2_with (go_at_call 9; refine HRA.out.mono ?_; rintro e w1 ⟨va, rfl, ho1, hb1⟩; obtain ⟨aa, ca, rfl, hac, _, _⟩ := ho1.shape; have HO1 := hide ho1; have HB1 := hide hb1; clear ho1 hb1)
  clear hw0
  go_loopw [6, 8] (fun l i wr => ∃ (v : Value) (k n : Nat), v = l ∧ k ≤ cnt T ∧ i = .int .i64 (k : Int) ∧ Hid (n = min k (ix T t) - ix T f) ∧ Hid (OwnF wr w1.heap.size 9 1 v n (sf T (ix T f))) ∧ Hid (Below w1.heap.size w1 wr)) (fun _ i _ => cnt T - (intOf i).toNat)
  case atStart => exact ⟨_, 0, 0, rfl, Nat.zero_le _, rfl, (by show 0 = _; omega), ownf_none _ _ _ _ _, Below.refl _ _⟩
  case round =>
    obtain ⟨v, k, n, rfl, hk, rfl, HN, HO, HB⟩ := hrel
    have HCB := hide ((HB.out.block b (by have := HLT.out; have := HB1.out.size; omega)).trans ((HB1.out.block b HLT.out).trans HC0.out))
    obtain ⟨d0, d1⟩ := cell2 HCB.out
    by_cases hlt : k < cnt T
    · obtain ⟨g, c, hv, _, _, hgl⟩ := HO1.out.has (by omega)
      simp only [Value.slice.injEq] at hv
      obtain ⟨rfl, _, rfl⟩ := hv
      have hki : (k : Int) < (cnt T : Int) := by omega
      have HST := hide (piece_step T f t k hlt)
      have HR1 := hide (HO1.out.below HB.out)
      have e0 : wr.cell? ⟨g, k * 3, none⟩ = some (.int .i64 (pl T k : Nat)) := HR1.out.cellAt (lf3_len T) k 0 _ hlt (by omega) rfl
      obtain ⟨p, hp⟩ : ∃ p, pl T k = p := ⟨_, rfl⟩
      rw [hp] at e0 HST
      clear hp
      by_cases hin : f ≤ p ∧ p < t
      · have h1 : (f : Int) ≤ (p : Int) := by omega
        have h2 : (p : Int) < (t : Int) := by omega
        have k1 : decide ((f : Int) ≤ (p : Int)) = true := by simpa using h1
        have k2 : decide ((p : Int) < (t : Int)) = true := by simpa using h2
        have HS1 := hide (HST.out.1 hin)
        have HNK : Hid (ix T f + n = k) := by show _ = _; rw [HN.out]; exact HS1.out.2
        have hnk : n ≤ k := by have := HNK.out; omega
        have c3 : wr.cell? ⟨g, k * 3 + 1, none⟩ = some (.string (ln T k)) := HR1.out.cellAt (lf3_len T) k 1 _ hlt (by omega) rfl
        have HF : Hid (sf T (ix T f) n = [.string (ln T k)]) := by show sf T (ix T f) n = _; unfold sf; rw [HNK.out]
        obtain ⟨L, hL⟩ : ∃ L, ln T k = L := ⟨_, rfl⟩
        rw [hL] at c3 HF
        clear hL hin HST
        go_wp2_with fail
        go_quiet (fail)
        obtain ⟨wq, hwq⟩ : ∃ wq, wr.drewN nq = wq := ⟨_, rfl⟩
        rw [hwq]
        have HBQ : Hid (Below wr.heap.size wr wq) := by rw [← hwq]; exact below_drewN' _ _ _
        have c4 : wq.cell? ⟨g, k * 3 + 1, none⟩ = some (.string L) := (HBQ.out.cell (p := ⟨g, k * 3 + 1, none⟩) (by show g < _; have := HB.out.size; omega)).trans c3
        obtain ⟨wa, hwa⟩ : ∃ wa, wq.alloc (.cells #[.string L] 9) = wa := ⟨_, rfl⟩
        have HW : Hid (∀ (j : Nat) (u : Value), (sf T (ix T f) n)[j]? = some u → wa.cell? ((⟨wq.heap.size, 0, none⟩ : Addr).add j) = some u) := fun j u h => by rw [HF.out] at h; rw [← hwa]; exact news wq _ _ j u h
        have HBA : Hid (Below wr.heap.size wr wa) := by rw [← hwa]; exact below_trans HBQ.out ((Below.refl _ _).alloc (Nat.le_refl _) _)
        have H1 : Hid (∀ u ∈ sf T (ix T f) n, u.oneCell' = true) := by rw [HF.out]; simp [Hid, Value.oneCell']
        clear hwq c0 c1 d0 d1 c3 e0
        go_wp2_with (at_builtin; refine pushF wa rfl _ _ rfl Try.underlying34 infoSt rfl (by omega) (by omega) w1.heap.size v n (sf T (ix T f)) rfl rfl (HO.out.below HBA.out) ⟨wq.heap.size, 0, none⟩ 1 rfl HW.out H1.out (by omega) (by have := HB.out.size; have := HBA.out.size; omega) ?_; intro g' c' w' ho' hg'; have HO2 := hide ho'; have HB2 := hide (grown_own (below_trans HB.out HBA.out) (HO.out.below HBA.out) (Nat.le_refl _) hg'); clear ho' hg')
        go_roundw
        case rel => exact ⟨_, k + 1, n + 1, rfl, hlt, by go_num, (by show n + 1 = _; rw [HS1.out.1, HN.out]), HO2.out, HB2.out⟩
        case measure => simp [intOf]; omega
      · have HS1 := hide (HST.out.2 hin)
        by_cases h1 : f ≤ p
        · have h1i : (f : Int) ≤ (p : Int) := by omega
          have h2 : ¬ (p : Int) < (t : Int) := by omega
          have k1 : decide ((f : Int) ≤ (p : Int)) = true := by simpa using h1i
          have k2 : decide ((p : Int) < (t : Int)) = false := by simpa using h2
          have k3 : decide (f ≤ p) = true := by simpa using h1
          have k4 : decide (p < t) = false := by simp; omega
          clear hin HST
          go_wp2_with fail
          go_quiet (fail)
          go_wp2_with fail
          go_roundw
          case rel => exact ⟨_, k + 1, n, rfl, hlt, by go_num, (by show n = _; rw [HS1.out, HN.out]), HO.out.below (below_drewN' _ _ _), below_trans HB.out (below_drewN' _ _ _)⟩
          case measure => simp [intOf]; omega
        · have h1i : ¬ (f : Int) ≤ (p : Int) := by omega
          have k1 : decide ((f : Int) ≤ (p : Int)) = false := by simpa using h1i
          have k3 : decide (f ≤ p) = false := by simpa using h1
          clear hin HST
          go_wp2_with fail
          go_quiet (fail)
          go_wp2_with fail
          go_roundw
          case rel => exact ⟨_, k + 1, n, rfl, hlt, by go_num, (by show n = _; rw [HS1.out, HN.out]), HO.out.below (below_drewN' _ _ _), below_trans HB.out (below_drewN' _ _ _)⟩
          case measure => simp [intOf]; omega
    · obtain rfl : cnt T = k := by omega
      have HE : Hid (ix T t - ix T f = n) := by show _ = _; rw [HN.out]; have := ix_le T t; omega
      go_wp2_with fail
      go_ret2
      exact ⟨_, rfl, by rw [HE.out]; exact HO.out.mono (Nat.le_trans HB0.out.size HB1.out.size), below_trans HB0.out (below_trans HB1.out HB.out)⟩
set_option maxHeartbeats 2000000 in
theorem refOf_long (T : ByteArray) (f t : Int) (w : World) (hs : 4194304 < T.size) (hm : T.size ≤ 9223372036854775807) :
    Calls Try.prog 14 #[.string T, .agg #[.int .i64 f, .int .i64 t]] w fun e w' => e = .returned (.tuple #[.slice none 0 0, .int .i64 2]) ∧ Below w.heap.size w w' := by
  have hsi : (4194304 : Int) < (T.size : Int) := by omega
  go_enter Try.func14, Try.ntmps14
  go_wp2_with fail
  go_ret2
  exact ⟨rfl, (Below.refl _ _).alloc (Nat.le_refl _) _⟩
set_option maxHeartbeats 2000000 in
theorem refOf_arg (T : ByteArray) (f t : Int) (w : World) (hs : T.size ≤ 4194304) (h : f < 0 ∨ t < f ∨ (T.size : Int) < t) :
    Calls Try.prog 14 #[.string T, .agg #[.int .i64 f, .int .i64 t]] w fun e w' => e = .returned (.tuple #[.slice none 0 0, .int .i64 3]) ∧ Below w.heap.size w w' := by
  have hsi : (T.size : Int) ≤ 4194304 := by omega
  have hsn : ¬ (4194304 : Int) < (T.size : Int) := by omega
  by_cases h1 : f < 0
  · go_enter Try.func14, Try.ntmps14
    go_wp2_with fail
    go_ret2
    exact ⟨rfl, (Below.refl _ _).alloc (Nat.le_refl _) _⟩
  · by_cases h2 : t < f
    · clear h
      go_enter Try.func14, Try.ntmps14
      go_wp2_with fail
      go_ret2
      exact ⟨rfl, (Below.refl _ _).alloc (Nat.le_refl _) _⟩
    · have h3 : (T.size : Int) < t := by omega
      clear h
      go_enter Try.func14, Try.ntmps14
      go_wp2_with fail
      go_ret2
      exact ⟨rfl, (Below.refl _ _).alloc (Nat.le_refl _) _⟩
/-- Of, by the program: the error, and the lines where there is none. -/
theorem of_any (T : ByteArray) (f t : Int) (w : World) (hs : T.size ≤ 9223372036854775807) :
    Calls Try.prog 13 #[.string T, .agg #[.int .i64 f, .int .i64 t]] w fun e w' => ∃ v, e = .returned (.tuple #[v, .int .i64 (ofErr T f t)]) ∧ OwnF w' w.heap.size 9 1 v (ofN T f t) (sf T (ofA T f)) ∧ Below w.heap.size w w' := by
  unfold ofN ofErr
  by_cases h1 : 4194304 < T.size
  · rw [if_pos h1, if_neg (by omega)]
    exact (of_long T f t w h1 hs).mono fun e w' ⟨h, hb⟩ => ⟨_, h, ownf_none _ _ _ _ _, hb⟩
  · rw [if_neg h1]
    by_cases h2 : f < 0 ∨ t < f ∨ (T.size : Int) < t
    · rw [if_pos h2, if_neg (by omega)]
      exact (of_arg T f t w (by omega) h2).mono fun e w' ⟨h, hb⟩ => ⟨_, h, ownf_none _ _ _ _ _, hb⟩
    · rw [if_neg h2, if_pos rfl]
      obtain ⟨F, rfl⟩ : ∃ F : Nat, f = (F : Int) := ⟨f.toNat, by omega⟩
      obtain ⟨U, rfl⟩ : ∃ U : Nat, t = (U : Int) := ⟨t.toNat, by omega⟩
      exact (of_ok T F U w (by omega) (by omega) (by omega)).mono fun e w' ⟨v, h, ho, hb⟩ => ⟨v, h, owns_ownf ho, hb⟩
/-- Of, by the document. -/
theorem refOf_any (T : ByteArray) (f t : Int) (w : World) (hs : T.size ≤ 9223372036854775807) :
    Calls Try.prog 14 #[.string T, .agg #[.int .i64 f, .int .i64 t]] w fun e w' => ∃ v, e = .returned (.tuple #[v, .int .i64 (ofErr T f t)]) ∧ OwnF w' w.heap.size 9 1 v (ofN T f t) (sf T (ofA T f)) ∧ Below w.heap.size w w' := by
  unfold ofN ofErr
  by_cases h1 : 4194304 < T.size
  · rw [if_pos h1, if_neg (by omega)]
    exact (refOf_long T f t w h1 hs).mono fun e w' ⟨h, hb⟩ => ⟨_, h, ownf_none _ _ _ _ _, hb⟩
  · rw [if_neg h1]
    by_cases h2 : f < 0 ∨ t < f ∨ (T.size : Int) < t
    · rw [if_pos h2, if_neg (by omega)]
      exact (refOf_arg T f t w (by omega) h2).mono fun e w' ⟨h, hb⟩ => ⟨_, h, ownf_none _ _ _ _ _, hb⟩
    · rw [if_neg h2, if_pos rfl]
      obtain ⟨F, rfl⟩ : ∃ F : Nat, f = (F : Int) := ⟨f.toNat, by omega⟩
      obtain ⟨U, rfl⟩ : ∃ U : Nat, t = (U : Int) := ⟨t.toNat, by omega⟩
      exact refOf_ok T F U w (by omega) (by omega) (by omega)
end Go.Proofs.Ytmhebaknoginhaa.Ln
