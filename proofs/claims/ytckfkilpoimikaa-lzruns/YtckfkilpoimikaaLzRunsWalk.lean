/-
  The walk of the statement LzRuns.
-/
import Derived.Test.YtckfkilpoimikaaLzWorks
namespace Go.Proofs.Ytckfkilpoimikaa.Lz
open Go.ChangeShapes Go.WideShapes Go.ChangeAt Go.RowKit
open Go.Proofs.Ytckfkilpoimikaa.Base Go.Proofs.Ytckfkilpoimikaa.Nums
set_option linter.unusedVariables false
theorem gd_rep (c : BitVec 8) (n k : Nat) (h : k < n) : gd (List.replicate n c) k = c := by
  unfold gd; rw [List.getD_eq_getElem?_getD, List.getElem?_replicate, if_pos h]; rfl
theorem runFrom_all (x : Txt) (j i most : Nat) (h : ∀ k, k < most → gd x (j + k) = gd x (i + k)) : ∀ d r, most - r = d → r ≤ most → runFrom x j i most r = most := by
  intro d
  induction d with
  | zero => intro r h1 h2; rw [runFrom_stop _ _ _ _ _ (by omega)]; omega
  | succ d ih => intro r h1 h2; rw [runFrom_go _ _ _ _ _ (by omega) (h r (by omega))]; exact ih (r + 1) (by omega) (by omega)
theorem best_rep (c : BitVec 8) (n i : Nat) (hi : 1 ≤ i) (h4 : i + 4 ≤ n) : best (List.replicate n c) i = (1, min 259 (n - i)) := by
  unfold best
  rw [List.length_replicate, if_neg (by omega)]
  generalize hm : min 259 (n - i) = most
  obtain ⟨m, rfl⟩ : ∃ m, i = m + 1 := ⟨i - 1, by omega⟩
  simp only [search]
  have hs : same4 (List.replicate n c) m (m + 1) = true := by
    unfold same4
    rw [decide_eq_true_iff]
    refine ⟨?_, ?_, ?_, ?_⟩ <;> rw [gd_rep c n _ (by omega), gd_rep c n _ (by omega)]
  have hr : runFrom (List.replicate n c) m (m + 1) most 4 = most := runFrom_all _ _ _ _ (fun k hk => by rw [gd_rep c n _ (by omega), gd_rep c n _ (by omega)]) _ 4 rfl (by omega)
  have hb : better (List.replicate n c) (m + 1) most m (0, 0) = (1, most) := by
    unfold better
    rw [hr, if_pos ⟨by simp only; omega, by
      unfold pays
      rw [show m + 1 - m = 1 by omega, put_small 1 (by omega), decide_eq_true_iff]
      show 3 + 1 ≤ most; omega⟩, show m + 1 - m = 1 by omega]
  rw [if_neg (by omega), if_pos hs, hb]
  exact search_full _ _ _ _ (by omega) _ _ (.inl (Nat.le_refl _))
theorem best_few (x : Txt) (i : Nat) (h : x.length < i + 4) : best x i = (0, 0) := by unfold best; rw [if_pos (by omega)]
theorem own_few (x : Txt) (frm : Nat) : ∀ d i, x.length - i = d → d < 4 → i ≤ x.length → ownFrom x i frm = if frm < x.length then [⟨x.drop frm, 0, 0⟩] else [] := by
  intro d
  induction d with
  | zero => intro i h1 h2 h3; exact own_end x i frm (by omega)
  | succ d ih => intro i h1 h2 h3; rw [own_skip x i frm (by omega) (by rw [best_few x i (by omega)]; simp)]; exact ih (i + 1) (by omega) (by omega) (by omega)
theorem put_le2 (u : Nat) (h : u < 16384) : (put u).length ≤ 2 := by
  by_cases h1 : u < 128
  · rw [put_small u h1]; simp
  · rw [put_large u (by omega), put_small _ (by omega)]; simp
theorem run_tail (c : BitVec 8) (n : Nat) : ∀ d i, n - i = d → 1 ≤ i → i ≤ n → (bytesOf (ownFrom (List.replicate n c) i i)).length ≤ 4 + (n - i) / 64 := by
  intro d
  induction d using Nat.strongRecOn with
  | ind d ih =>
    intro i h1 h2 h3
    have hl : (List.replicate n c).length = n := List.length_replicate
    by_cases h4 : n < i + 4
    · rw [own_few _ i (n - i) i (by rw [hl]) (by omega) (by rw [hl]; exact h3), hl]
      split
      · rw [bytesOf_cons, putTok_bare _ ⟨rfl, rfl⟩]
        simp only [List.length_append, List.length_drop, hl]
        rw [put_small (n - i) (by omega)]
        simp [bytesOf]; omega
      · simp [bytesOf]
    · have hb := best_rep c n i h2 (by omega)
      rw [own_match _ i i (by rw [hl]; omega) (by rw [hb]; show 0 < min 259 (n - i); omega), hb]
      simp only
      have hi := ih (n - (i + min 259 (n - i))) (by omega) (i + min 259 (n - i)) rfl (by omega) (by omega)
      rw [bytesOf_cons, List.length_append]
      have hp : (putTok ⟨((List.replicate n c).drop i).take (i - i), ((1 : Nat) : Int), ((min 259 (n - i) : Nat) : Int)⟩).length ≤ 4 := by
        rw [putTok_match _ (not_bare _ (by simp only; omega))]
        simp only [List.length_append, Nat.sub_self, List.take_zero, List.length_nil]
        have e1 := put_le2 (((min 259 (n - i) : Nat) : Int) - 4).toNat (by omega)
        rw [put_small 0 (by omega), show (((1 : Nat) : Int)).toNat = 1 from rfl, put_small 1 (by omega)]
        simp; omega
      by_cases h5 : n - i ≤ 259
      · have e : i + min 259 (n - i) = n := by omega
        rw [e] at hi ⊢
        rw [own_end _ n n (by rw [hl]; omega), if_neg (by rw [hl]; omega)]
        simp only [bytesOf, List.flatMap_nil, List.length_nil]
        omega
      · omega
theorem run_len (c : BitVec 8) (n : Nat) : (bytesOf (ownFrom (List.replicate n c) 0 0)).length ≤ 12 + n / 32 := by
  have hl : (List.replicate n c).length = n := List.length_replicate
  by_cases h0 : n = 0
  · subst h0; rw [own_end _ 0 0 (by simp)]; simp [bytesOf]
  · have hb0 : best (List.replicate n c) 0 = (0, 0) := by unfold best; split <;> rfl
    rw [own_skip _ 0 0 (by rw [hl]; omega) (by rw [hb0]; simp)]
    by_cases h4 : n < 5
    · rw [own_few _ 0 (n - 1) 1 (by rw [hl]) (by omega) (by rw [hl]; omega), hl, if_pos (by omega), bytesOf_cons, putTok_bare _ ⟨rfl, rfl⟩]
      simp only [List.drop_zero, List.length_append, hl]
      rw [put_small n (by omega)]
      simp [bytesOf]; omega
    · have hb := best_rep c n 1 (by omega) (by omega)
      rw [own_match _ 1 0 (by rw [hl]; omega) (by rw [hb]; show 0 < min 259 (n - 1); omega), hb]
      simp only
      have hi := run_tail c n (n - (1 + min 259 (n - 1))) (1 + min 259 (n - 1)) rfl (by omega) (by omega)
      rw [bytesOf_cons, List.length_append]
      have hp : (putTok ⟨((List.replicate n c).drop 0).take (1 - 0), ((1 : Nat) : Int), ((min 259 (n - 1) : Nat) : Int)⟩).length ≤ 5 := by
        rw [putTok_match _ (not_bare _ (by simp only; omega))]
        have e0 : (((List.replicate n c).drop 0).take (1 - 0)).length = 1 := by rw [List.length_take, List.length_drop, hl]; omega
        simp only [List.length_append, e0]
        have e1 := put_le2 (((min 259 (n - 1) : Nat) : Int) - 4).toNat (by omega)
        rw [put_small 1 (by omega), show (((1 : Nat) : Int)).toNat = 1 from rfl, put_small 1 (by omega)]
        simp; omega
      omega
theorem rep_set (c : BitVec 8) (n k : Nat) (h : k < n) : (List.replicate k c ++ List.replicate (n - k) (BitVec.ofNat 8 0)).set k c = List.replicate (k + 1) c ++ List.replicate (n - (k + 1)) (BitVec.ofNat 8 0) := by
  rw [List.set_append_right _ _ (by simp), List.length_replicate, Nat.sub_self]
  obtain ⟨m, hm⟩ : ∃ m, n - k = m + 1 := ⟨n - k - 1, by omega⟩
  rw [hm, show n - (k + 1) = m by omega, List.replicate_succ, List.set_cons_zero, List.replicate_succ', List.append_assoc]; rfl
end Go.Proofs.Ytckfkilpoimikaa.Lz
namespace Go.Proofs.Ytckfkilpoimikaa.lzRuns
open Go.ChangeShapes Go.WideShapes Go.ChangeAt Go.RowKit
open Go.Proofs.Ytckfkilpoimikaa.Base Go.Proofs.Ytckfkilpoimikaa.Nums Go.Proofs.Ytckfkilpoimikaa.Lz
set_option linter.unusedVariables false
set_option maxHeartbeats 1000000 in
set_option maxRecDepth 100000 in
theorem walk (n0 n1 : Int) (w : World) (w0 : (Lit.int .u8 n0).wf = true) (w1 : (Lit.int .i64 n1).wf = true) :
    Calls Try.prog 3 #[.int .u8 n0, .int .i64 n1] w fun e w' => e = .returned (.bool true) ∧ Below w.heap.size w w' := by
  obtain ⟨hc0, hc1⟩ := wf_u8 w0
  obtain ⟨c, rfl⟩ : ∃ c : BitVec 8, n0 = (c.toNat : Int) := ⟨BitVec.ofNat 8 n0.toNat, by rw [BitVec.toNat_ofNat]; omega⟩
  clear hc0 hc1 w0 w1
  by_cases h1 : n1 < 0
  · go_enter Try.func3, Try.ntmps3
    go_wp2_with fail
    refine (works_any w).mono ?_
    rintro e w1 ⟨rfl, hb1⟩
    have HB1 := hide hb1
    clear hb1
    go_wp2_with fail
    go_ret
    exact ⟨rfl, HB1.out⟩
  · by_cases h2 : 65536 < n1
    · go_enter Try.func3, Try.ntmps3
      go_wp2_with fail
      refine (works_any w).mono ?_
      rintro e w1 ⟨rfl, hb1⟩
      have HB1 := hide hb1
      clear hb1
      go_wp2_with fail
      go_ret
      exact ⟨rfl, HB1.out⟩
    · obtain ⟨n, rfl⟩ := Int.eq_ofNat_of_zero_le (by omega : 0 ≤ n1)
      have hn : n ≤ 65536 := by omega
      have hni : (n : Int) ≤ 65536 := by omega
      obtain ⟨i0, hi, hz0, hz1, hz2⟩ := info_parts info8
      have HRL := hide (run_len c n)
      have HED := hide (enc_dec (List.replicate n c) (by rw [List.length_replicate]; exact hn))
      rw [List.length_replicate] at HED
      have HXL : Hid ((List.replicate n c).length = n) := List.length_replicate
      clear h1 h2
      go_enter Try.func3, Try.ntmps3
      go_wp2_with (at_make; refine wpList_make_full _ rfl _ _ 23 rfl w.heap.size 5 i0 (.int .u8 0) 1 Try.underlying23 hi hz0 hz1 .i64 .i64 _ _ n rfl rfl (by omega) (by omega) (by rw [hz2]; omega) (by unfold maxLen; omega) (Nat.le_refl _) ?_
                   intro w1 hown hgrow
                   have HB1 : Hid (Below w.heap.size w w1) := (Below.refl _ _).grown hgrow (Nat.le_refl _) (by intro k h; cases h)
                   have HO1 : Hid (Own w1 w.heap.size (.slice (some ⟨w.heap.size, 0, none⟩) n n) (List.replicate n (BitVec.ofNat 8 0))) := by
                     show Own _ _ _ _
                     unfold Own
                     rw [List.length_replicate, ← vals_replicate]
                     exact hown
                   clear hown hgrow)
      go_loopw [6] (fun y wr => ∃ k : Nat, k ≤ n ∧ y = .int .i64 (k : Int) ∧ Hid (Own wr w.heap.size (.slice (some ⟨w.heap.size, 0, none⟩) n n) (List.replicate k c ++ List.replicate (n - k) (BitVec.ofNat 8 0))) ∧ Hid (Below w.heap.size w wr)) (fun y _ => n - (intOf y).toNat)
      case atStart => exact ⟨0, Nat.zero_le _, rfl, by simpa using HO1, HB1⟩
      case round =>
        clear HO1 HB1
        obtain ⟨k, hk, rfl, HO, HB⟩ := hrel
        by_cases hlt : k < n
        · have hki : (k : Int) < (n : Int) := by omega
          have g1 := HO.out.cell k hlt
          have f1 := HO.out.frozen k
          have hst := HO.out.store k c
          rw [rep_set c n k hlt] at hst
          have HS1 := hide hst.1
          have HS2 : Hid (Below w.heap.size w (wr.setCell ⟨w.heap.size, k, none⟩ (.int .u8 (c.toNat : Int)))) := HB.out.grown hst.2 HB.out.size (fun q e => by cases e; exact Nat.le_refl _)
          clear hst
          go_wp2_with fail
          go_roundw
          case rel => exact ⟨k + 1, by omega, by go_num, HS1, HS2⟩
          case measure => simp [intOf]; omega
        · have HO' : Hid (Own wr w.heap.size (.slice (some ⟨w.heap.size, 0, none⟩) n n) (List.replicate n c)) := by
            have h := HO.out
            rw [show k = n by omega, Nat.sub_self, List.replicate_zero, List.append_nil] at h; exact h
          have hki : ¬ (k : Int) < (n : Int) := by omega
          clear HO
          generalize List.replicate n c = X at HRL HED HXL HO'
          go_wp2_with fail
          refine (encode_any _ n n X _ (Own.rd HO'.out (by have := HXL.out; omega)) (Nat.le_refl _) (by omega) hn (fun h => by cases h)).mono ?_
          rintro e w2 ⟨v2, rfl, ho2, hb2⟩
          obtain ⟨a2, n2, c2, rfl, HN2⟩ := own_named ho2
          have HB2 := hide (below_trans HB.out hb2)
          have HO2 := hide ho2
          have HX2 := hide (HO'.out.below hb2)
          have hc2 := (Got.cap ho2).1
          have hr2 := ho2.room
          have hn2 : (n2 : Int) ≤ 12 + (n : Int) / 32 := by have h1 := HN2.out; have h2 := HRL.out; omega
          clear hb2 ho2 HB HO'
          go_wp2_with fail
          refine (decode_any a2 n2 c2 _ (n : Int) w2 (Got.rd HO2.out (by have := HN2.out; omega)) hc2 hr2).mono ?_
          rintro e w3 ⟨v3, rfl, ho3, hb3⟩
          rw [HED.out] at ho3 ⊢
          simp only at ho3 ⊢
          obtain ⟨a3, n3, c3, rfl, HN3⟩ := own_named ho3
          have HB3 := hide (below_trans HB2.out hb3)
          have HO3 := hide ho3
          have HX3 := hide (HX2.out.below hb3)
          clear hb3 ho3 HB2 HO2 HX2
          go_wp2_with fail
          refine (sameBytes_eq _ _ _ _ _ _ X w3 (Got.rd HO3.out (by have := HXL.out; omega)) (Got.rd HX3.out (by have := HXL.out; omega))).mono ?_
          rintro e w4 ⟨rfl, hb4⟩
          have HB4 := hide (below_trans HB3.out hb4)
          clear hb4
          go_wp2_with fail
          go_ret
          exact ⟨rfl, HB4.out⟩
end Go.Proofs.Ytckfkilpoimikaa.lzRuns
