/-
  The statements' own helper 'fresh': its contract.
-/
import Derived.Test.YtclddadhddljgaaNumsFresh
namespace Go.Proofs.Ytclddadhddljgaa.Nums
set_option linter.unusedVariables false
open Go.ChangeShapes Go.WideShapes Go.ChangeAt Go.RowKit
open Go.Proofs.Ytclddadhddljgaa.Base
theorem own_addr {w : World} {base n c : Nat} {a : Option Addr} {bs : List (BitVec 8)} (h : Own w base (.slice a n c) bs) : ∀ ad, a = some ad → ad.off = 0 ∧ ad.spot = none := by
  intro ad e
  subst e
  rcases h.2 with ⟨h1, _⟩ | ⟨g, cap, cur, h1, _⟩
  · simp at h1
  · simp only [Value.slice.injEq, Option.some.injEq] at h1
    rw [h1.1]; exact ⟨rfl, rfl⟩
theorem own_some {w : World} {base n c : Nat} {a : Option Addr} {bs : List (BitVec 8)} (h : Own w base (.slice a n c) bs) (hn : 0 < n) : ∃ g, a = some ⟨g, 0, none⟩ := by
  rcases h.2 with ⟨h1, _⟩ | ⟨g, cap, cur, h1, _⟩
  · simp only [Value.slice.injEq] at h1; omega
  · simp only [Value.slice.injEq] at h1; exact ⟨g, h1.1⟩
theorem marks {L : List (BitVec 8)} {n : Nat} {c : BitVec 8} (hl : L.length = n) (h : ∀ j, j < n → L.getD j 0 = c) : L = List.replicate n c := by
  apply List.ext_getElem (by simp [hl])
  intro i h1 h2
  have := h i (by omega)
  rw [List.getD_eq_getElem?_getD, List.getElem?_eq_getElem h1] at this
  simpa using this
theorem set_marks {L : List (BitVec 8)} {k : Nat} {c : BitVec 8} (hk : k < L.length) (h : ∀ j, j < k → L.getD j 0 = c) : ∀ j, j < k + 1 → (L.set k c).getD j 0 = c := by
  intro j hj
  rw [List.getD_eq_getElem?_getD, List.getElem?_set]
  by_cases e : k = j
  · rw [if_pos e, if_pos hk]; rfl
  · rw [if_neg e, ← List.getD_eq_getElem?_getD]; exact h j (by omega)
theorem rep_get (n m k : Nat) (x y : BitVec 8) (h : k < n + m) : (List.replicate n x ++ List.replicate m y).getD k 0 = if k < n then x else y := by
  rw [List.getD_eq_getElem?_getD]
  by_cases hk : k < n
  · rw [if_pos hk, List.getElem?_append_left (by simpa using hk), List.getElem?_replicate, if_pos hk]; rfl
  · rw [if_neg hk, List.getElem?_append_right (by simp; omega), List.getElem?_replicate, if_pos (by simp; omega)]; rfl
theorem rep_get1 (n k : Nat) (x : BitVec 8) (h : k < n) : (List.replicate n x).getD k 0 = x := by
  rw [List.getD_eq_getElem?_getD, List.getElem?_replicate, if_pos h]; rfl
theorem v1 : (((B8 1).toNat : Nat) : Int) = 1 := by decide
theorem v2 : (((B8 2).toNat : Nat) : Int) = 2 := by decide
theorem v3 : (((B8 3).toNat : Nat) : Int) = 3 := by decide
theorem v4 : (((B8 4).toNat : Nat) : Int) = 4 := by decide
set_option maxHeartbeats 4000000 in
set_option maxRecDepth 100000 in
theorem fresh_any (base : Nat) (a b : Option Addr) (la ca lb cb : Nat) (A B : List (BitVec 8)) (w : World) (hbs : base ≤ w.heap.size) (ha : Own w base (.slice a la ca) A) (hb : Own w base (.slice b lb cb) B)
    (hne : ∀ i, (Value.slice a la ca).ownBlock = some i → (Value.slice b lb cb).ownBlock ≠ some i) (hla : la ≤ 140737488350000) (hlb : lb ≤ 140737488350000) :
    Calls Try.prog 15 #[.slice a la ca, .slice b lb cb] w fun e w' => e = .returned (.bool true) ∧ Kept2 w w' (Value.slice a la ca).ownBlock (Value.slice b lb cb).ownBlock := by
  have HA := hide ha
  have HBB := hide hb
  have HNE := hide hne
  have HBLA := hide (blk ha)
  have HBLB := hide (blk hb)
  have HADA := hide (own_addr ha)
  have HADB := hide (own_addr hb)
  have HLA := hide (Got.cap ha).2
  have HLB := hide (Got.cap hb).2
  clear ha hb hne
  go_enter Try.func15, Try.ntmps15
  go_wp2
  go_loopw [5] (fun i wr => ∃ k : Nat, k ≤ la ∧ i = .int .i64 k ∧ ∃ L : List (BitVec 8), Hid (L.length = la) ∧ Hid (∀ j, j < k → L.getD j 0 = B8 1) ∧ Hid (Own wr base (.slice a la ca) L) ∧ Hid (Own wr base (.slice b lb cb) B) ∧ Hid (Kept2 w wr (Value.slice a la ca).ownBlock (Value.slice b lb cb).ownBlock)) (fun i _ => la - (intOf i).toNat)
  case atStart => exact ⟨0, Nat.zero_le _, rfl, A, HLA.out.symm, fun j h => by omega, HA, HBB, Kept2.refl _ _ _⟩
  case round =>
    obtain ⟨k, hk, rfl, L, HLL, HM, HO, HOB, HK⟩ := hrel
    by_cases hlt : k < la
    · obtain ⟨g, rfl⟩ := own_some HO.out (by omega)
      have g1 := HO.out.cell k hlt
      generalize L.getD k 0 = c0 at g1
      have g2 := HO.out.frozen k
      have hst := HO.out.store k (B8 1)
      rw [v1] at hst
      have HS := hide hst
      clear hst
      have hki : (k : Int) < (la : Int) := by omega
      go_wp2
      go_roundw
      case rel => exact ⟨k + 1, by omega, by go_num, L.set k (B8 1), (by show (L.set k (B8 1)).length = la; rw [List.length_set]; exact HLL.out), set_marks (by rw [HLL.out]; exact hlt) HM.out, HS.out.1, keep HOB.out HS.out.2 (fun i j e1 e2 e => HNE.out j e2 (by rw [e1, e])), HK.out.grown HS.out.2 (fun i e => .inl rfl)⟩
      case measure => simp [intOf]; omega
    · have hk' : k = la := by omega
      subst hk'
      have HR1 := hide (marks HLL.out HM.out)
      rw [HR1.out] at HO
      clear HR1 HM HLL
      go_wp2
      go_loopw [6] (fun i w2 => ∃ j : Nat, j ≤ lb ∧ i = .int .i64 j ∧ ∃ M : List (BitVec 8), Hid (M.length = lb) ∧ Hid (∀ i, i < j → M.getD i 0 = B8 2) ∧ Hid (Own w2 base (.slice a k ca) (List.replicate k (B8 1))) ∧ Hid (Own w2 base (.slice b lb cb) M) ∧ Hid (Kept2 w w2 (Value.slice a k ca).ownBlock (Value.slice b lb cb).ownBlock)) (fun i _ => lb - (intOf i).toNat)
      case atStart => exact ⟨0, Nat.zero_le _, rfl, B, HLB.out.symm, fun j h => by omega, HO, HOB, HK⟩
      case round =>
        clear HO HOB HK
        obtain ⟨j, hj, rfl, M, HMM, HM, HO, HOB, HK⟩ := hrel
        by_cases hjl : j < lb
        · obtain ⟨g, rfl⟩ := own_some HOB.out (by omega)
          have g1 := HOB.out.cell j hjl
          generalize M.getD j 0 = c0 at g1
          have g2 := HOB.out.frozen j
          have hst := HOB.out.store j (B8 2)
          rw [v2] at hst
          have HS := hide hst
          clear hst
          have hji : (j : Int) < (lb : Int) := by omega
          go_wp2
          go_roundw
          case rel => exact ⟨j + 1, by omega, by go_num, M.set j (B8 2), (by show (M.set j (B8 2)).length = lb; rw [List.length_set]; exact HMM.out), set_marks (by rw [HMM.out]; exact hjl) HM.out, keep HO.out HS.out.2 (fun i j e1 e2 e => HNE.out i e1 (by rw [e, ← e2]; rfl)), HS.out.1, HK.out.grown HS.out.2 (fun i e => .inr (.inl rfl))⟩
          case measure => simp [intOf]; omega
        · have hj' : j = lb := by omega
          subst hj'
          have HR1 := hide (marks HMM.out HM.out)
          rw [HR1.out] at HOB
          clear HR1 HM HMM
          obtain ⟨n0, hn0⟩ : ∃ n0, n0 = wr.heap.size := ⟨_, rfl⟩
          have GA0 : Hid (Grown base n0 a k ca (List.replicate k (B8 1)) (List.replicate 0 (B8 3)) wr (.slice a k ca)) := ⟨by rw [List.replicate_zero, List.append_nil]; exact HO.out, Got.rd HO.out (by simp; omega), .inl rfl, HADA.out⟩
          have GB0 : Hid (Grown base n0 b j cb (List.replicate j (B8 2)) (List.replicate 0 (B8 4)) wr (.slice b j cb)) := ⟨by rw [List.replicate_zero, List.append_nil]; exact HOB.out, Got.rd HOB.out (by simp; omega), .inl rfl, HADB.out⟩
          have hw2 : w.heap.size ≤ n0 := by have := HK.out.size; omega
          have HBLA2 : Hid (∀ i, (Value.slice a k ca).ownBlock = some i → i < n0) := fun i e => by have := (blk HO.out i e).2; omega
          have HBLB2 : Hid (∀ i, (Value.slice b j cb).ownBlock = some i → i < n0) := fun i e => by have := (blk HOB.out i e).2; omega
          have hn0' : n0 ≤ wr.heap.size := by omega
          have hbn : base ≤ n0 := by omega
          clear HO HOB hn0
          go_wp2
          go_loopw [7, 8, 9] (fun x y i w3 => ∃ (m : Nat) (xa ya : Option Addr) (xc yc : Nat), m ≤ 64 ∧ i = .int .i64 (m : Int) ∧ x = .slice xa (k + m) xc ∧ y = .slice ya (j + m) yc ∧ n0 ≤ w3.heap.size ∧
              Hid (Grown base n0 a k ca (List.replicate k (B8 1)) (List.replicate m (B8 3)) w3 (.slice xa (k + m) xc)) ∧ Hid (Grown base n0 b j cb (List.replicate j (B8 2)) (List.replicate m (B8 4)) w3 (.slice ya (j + m) yc)) ∧
              Hid (∀ i, (Value.slice xa (k + m) xc).ownBlock = some i → (Value.slice ya (j + m) yc).ownBlock ≠ some i) ∧ Hid (Kept2 w w3 (Value.slice a k ca).ownBlock (Value.slice b j cb).ownBlock)) (fun _ _ i _ => 64 - (intOf i).toNat)
          case atStart => exact ⟨0, a, b, ca, cb, Nat.zero_le _, rfl, rfl, rfl, hn0', GA0, GB0, HNE, HK⟩
          case round =>
            clear GA0 GB0 HK hn0'
            obtain ⟨m, xa, ya, xc, yc, hm, rfl, rfl, rfl, hn3, GX, GY, HXY, HK⟩ := hrel
            by_cases hml : m < 64
            · have hmi : (m : Int) < 64 := by omega
              have HLX : Hid ((List.replicate k (B8 1) ++ List.replicate m (B8 3)).length = k + m) := by show _ = _; simp
              have HLY : Hid ((List.replicate j (B8 2) ++ List.replicate m (B8 4)).length = j + m) := by show _ = _; simp
              have HALX := hide (GX.out.keep (below_grown ((Below.refl wr.heap.size wr).alloc (Nat.le_refl _) (.cells #[.int .u8 3] 5))) (fun i e => by cases e) (fun i e => by cases e))
              have HALY := hide (GY.out.keep (below_grown ((Below.refl wr.heap.size wr).alloc (Nat.le_refl _) (.cells #[.int .u8 3] 5))) (fun i e => by cases e) (fun i e => by cases e))
              have HKA := hide (HK.out.grown (below_grown ((Below.refl wr.heap.size wr).alloc (Nat.le_refl _) (.cells #[.int .u8 3] 5))) (fun i e => by cases e))
              have hsA : n0 ≤ (wr.alloc (.cells #[.int .u8 3] 5)).heap.size := by simp; omega
              have HWX := hide (GX.out.where (w0 := w) hw2)
              have HWY := hide (GY.out.where (w0 := w) hw2)
              have HXB := hide (GX.out.apart HNE.out HBLB2.out)
              have HYA := hide (GY.out.apart (ne_symm HNE.out) HBLA2.out)
              go_wp2_with (first
                | (at_builtin; refine push2 _ rfl _ _ rfl base _ _ rfl HALX.out.1 ⟨wr.heap.size, 0, none⟩ 1 (B8 3) rfl ?_ (by rw [HLX.out]; omega) (by omega) ?_
                   · rw [v3]; exact cell_one_new _ _ _ 0 _ rfl
                   intro g4 c4 w4 hown hcase
                   rw [List.append_assoc, HLX.out] at hown
                   rw [HLX.out]
                   have HP4 : Hid (Put1 _ w4 (.slice xa (k + m) xc) g4) := hcase
                   have GX4 := hide (HALX.out.push hsA (by simp) (by omega) (by simp; omega) hown hcase)
                   have GY4 := hide (HALY.out.beside HP4.out HXY.out HXB.out)
                   have HK4 := hide (HKA.out.beside HP4.out (fun i e => (HWX.out i e).elim .inl (fun h => .inr (.inr h))))
                   have HXY4 := hide (HP4.out.apart (n := k + m + 1) (c := c4) HXY.out HALY.out.lt)
                   have hs4 : n0 ≤ w4.heap.size := Nat.le_trans hsA HP4.out.size
                   have HBX4 := hide (blk GX4.out.1)
                   have HALX4 := hide (GX4.out.keep (below_grown ((Below.refl w4.heap.size w4).alloc (Nat.le_refl _) (.cells #[.int .u8 4] 5))) (fun i e => by cases e) (fun i e => by cases e))
                   have HALY4 := hide (GY4.out.keep (below_grown ((Below.refl w4.heap.size w4).alloc (Nat.le_refl _) (.cells #[.int .u8 4] 5))) (fun i e => by cases e) (fun i e => by cases e))
                   have HKA4 := hide (HK4.out.grown (below_grown ((Below.refl w4.heap.size w4).alloc (Nat.le_refl _) (.cells #[.int .u8 4] 5))) (fun i e => by cases e))
                   have hsA4 : n0 ≤ (w4.alloc (.cells #[.int .u8 4] 5)).heap.size := by simp; omega
                   clear hown hcase)
                | (at_builtin; refine push2 _ rfl _ _ rfl base _ _ rfl HALY4.out.1 ⟨w4.heap.size, 0, none⟩ 1 (B8 4) rfl ?_ (by rw [HLY.out]; omega) (by omega) ?_
                   · rw [v4]; exact cell_one_new _ _ _ 0 _ rfl
                   intro g5 c5 w5 hown hcase
                   rw [List.append_assoc, HLY.out] at hown
                   rw [HLY.out]
                   have HP5 : Hid (Put1 _ w5 (.slice ya (j + m) yc) g5) := hcase
                   have GY5 := hide (HALY4.out.push hsA4 (by simp) (by omega) (by simp; omega) hown hcase)
                   have GX5 := hide (HALX4.out.beside HP5.out (ne_symm HXY4.out) HYA.out)
                   have HK5 := hide (HKA4.out.beside HP5.out (fun i e => (HWY.out i e).elim (fun h => .inr (.inl h)) (fun h => .inr (.inr h))))
                   have HXY5 := hide (ne_symm (HP5.out.apart (n := j + m + 1) (c := c5) (ne_symm HXY4.out) HALX4.out.lt))
                   have hs5 : n0 ≤ w5.heap.size := Nat.le_trans hsA4 HP5.out.size
                   clear hown hcase)
                | fail)
              go_roundw
              case rel =>
                refine ⟨m + 1, _, _, c4, c5, by omega, by go_num, rfl, rfl, hs5, ?_, ?_, HXY5, HK5⟩
                · show Grown _ _ _ _ _ _ _ _ _
                  rw [List.replicate_succ']; exact GX5.out
                · show Grown _ _ _ _ _ _ _ _ _
                  rw [List.replicate_succ']; exact GY5.out
              case measure => simp [intOf]; omega
            · have hm' : m = 64 := by omega
              subst hm'
              have HRX : Hid _ := (Got.rd GX.out.1 (by simp; omega)).2.2
              have HRY : Hid _ := (Got.rd GY.out.1 (by simp; omega)).2.2
              have HRA : Hid _ := GX.out.2.1.2.2
              have HRB : Hid _ := GY.out.2.1.2.2
              clear GX GY HXY
              go_wp2
              go_loopw [10] (fun i wz => ∃ t : Nat, t ≤ k + 64 ∧ i = .int .i64 (t : Int) ∧ wz = wr) (fun i _ => k + 64 - (intOf i).toNat)
              case atStart => exact ⟨0, Nat.zero_le _, rfl, rfl⟩
              case round =>
                obtain ⟨t, ht, rfl, rfl⟩ := hrel
                by_cases htl : t < k + 64
                · obtain ⟨b1, o1, rfl, hb1, hc1⟩ := unhide HRX (by omega)
                  have g1 := hc1 t htl
                  clear hc1
                  rw [rep_get _ _ _ _ _ (by omega)] at g1
                  have hti : (t : Int) < (k : Int) + 64 := by omega
                  by_cases htk : t < k
                  · obtain ⟨b2, o2, rfl, hb2, hc2⟩ := unhide HRA (by omega)
                    have g2 := hc2 t htk
                    clear hc2
                    rw [rep_get1 _ _ _ htk, v1] at g2
                    rw [if_pos htk, v1] at g1
                    have htj : (t : Int) < (k : Int) := by omega
                    have htm : ¬ (k : Int) ≤ (t : Int) := by omega
                    have htn : ¬ k ≤ t := by omega
                    have htd : decide (k ≤ t) = false := by simpa using htk
                    go_wp2
                    go_roundw
                    case rel => exact ⟨t + 1, by omega, by go_num, by first | trivial | rfl⟩
                    case measure => simp [intOf]; omega
                  · rw [if_neg htk, v3] at g1
                    have htj : ¬ (t : Int) < (k : Int) := by omega
                    have htm : (k : Int) ≤ (t : Int) := by omega
                    go_wp2
                    go_roundw
                    case rel => exact ⟨t + 1, by omega, by go_num, by first | trivial | rfl⟩
                    case measure => simp [intOf]; omega
                · go_wp2
                  go_loopw [11] (fun i wz => ∃ t : Nat, t ≤ j + 64 ∧ i = .int .i64 (t : Int) ∧ wz = wr) (fun i _ => j + 64 - (intOf i).toNat)
                  case atStart => exact ⟨0, Nat.zero_le _, rfl, rfl⟩
                  case round =>
                    obtain ⟨t, ht, rfl, rfl⟩ := hrel
                    by_cases htl : t < j + 64
                    · obtain ⟨b1, o1, rfl, hb1, hc1⟩ := unhide HRY (by omega)
                      have g1 := hc1 t htl
                      clear hc1
                      rw [rep_get _ _ _ _ _ (by omega)] at g1
                      have hti : (t : Int) < (j : Int) + 64 := by omega
                      by_cases htk : t < j
                      · obtain ⟨b2, o2, rfl, hb2, hc2⟩ := unhide HRB (by omega)
                        have g2 := hc2 t htk
                        clear hc2
                        rw [rep_get1 _ _ _ htk, v2] at g2
                        rw [if_pos htk, v2] at g1
                        have htj : (t : Int) < (j : Int) := by omega
                        have htm : ¬ (j : Int) ≤ (t : Int) := by omega
                        have htn : ¬ j ≤ t := by omega
                        have htd : decide (j ≤ t) = false := by simpa using htk
                        go_wp2
                        go_roundw
                        case rel => exact ⟨t + 1, by omega, by go_num, by first | trivial | rfl⟩
                        case measure => simp [intOf]; omega
                      · rw [if_neg htk, v4] at g1
                        have htj : ¬ (t : Int) < (j : Int) := by omega
                        have htm : (j : Int) ≤ (t : Int) := by omega
                        go_wp2
                        go_roundw
                        case rel => exact ⟨t + 1, by omega, by go_num, by first | trivial | rfl⟩
                        case measure => simp [intOf]; omega
                    · go_wp2
                      go_ret
                      exact ⟨rfl, HK.out⟩
end Go.Proofs.Ytclddadhddljgaa.Nums
