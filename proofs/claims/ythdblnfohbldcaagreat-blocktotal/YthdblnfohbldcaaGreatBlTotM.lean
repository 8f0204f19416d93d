/-
  What is unpacked has as many bytes as were claimed; a right text is one of entries, which a builder takes again.
-/
import Derived.Test.YthdblnfohbldcaaGreatBlRev
import Derived.Test.YthdblnfohbldcaaGreatBlBS
namespace Go.Proofs.YthdblnfohbldcaaGreat.Bl
open Go.ChangeShapes Go.WideShapes Go.ChangeAt Go.RowKit
open Go.Proofs.YthdblnfohbldcaaGreat.Base Go.Proofs.YthdblnfohbldcaaGreat.Nums Go.Proofs.YthdblnfohbldcaaGreat.Curs Go.Proofs.YthdblnfohbldcaaGreat.Crc
open Go.Proofs.YthdblnfohbldcaaGreat.Fa (St fixS)
set_option linter.unusedVariables false
theorem lz_len2 (p : List (BitVec 8)) (raw : Int) (h : (Lz.decoded p raw).2 = 0) : ((Lz.decoded p raw).1.length : Int) = raw := by
  unfold Lz.decoded at h ⊢
  by_cases hn : raw < 0 ∨ 65536 < raw
  · rw [if_pos hn] at h; exact absurd h (by decide)
  rw [if_neg hn] at h ⊢
  by_cases hr : (Lz.read p 0 raw.toNat).2 = 0
  · rw [if_pos hr]
    have hg := (Lz.read_ok raw.toNat p 0 raw.toNat _ (by omega) (by omega) (by omega) (Prod.ext rfl hr)).1
    show (((Lz.expand [] (Lz.read p 0 raw.toNat).1).length : Nat) : Int) = raw
    rw [Lz.length_expand _ [] _ hg]
    omega
  · rw [if_neg hr] at h; exact absurd h hr
theorem huff_len2 (p : List (BitVec 8)) (raw : Int) (h : (Huff.decoded p raw).2 = 0) : ((Huff.decoded p raw).1.length : Int) = raw := by
  unfold Huff.decoded at h ⊢
  by_cases hn : raw < 0 ∨ 65536 < raw
  · rw [if_pos hn] at h; exact absurd h (by decide)
  rw [if_neg hn] at h ⊢
  cases hl : Huff.lensOf p with
  | none => rw [hl] at h; simp at h
  | some x =>
    obtain ⟨ls, r⟩ := x
    rw [hl] at h
    simp only at h ⊢
    by_cases hr : Huff.right ls = false
    · rw [if_pos hr] at h; exact absurd h (by decide)
    rw [if_neg hr] at h ⊢
    cases ht : Huff.textTo ls r raw.toNat with
    | none => rw [ht] at h; simp at h
    | some y =>
      obtain ⟨t, i⟩ := y
      rw [ht] at h
      simp only at h ⊢
      by_cases he : Huff.isEnd r i = true
      · rw [if_pos he]
        have := (Huff.textTo_ok ls r _ _ _ ht).1
        show ((t.length : Nat) : Int) = raw
        omega
      · rw [if_neg he] at h; exact absurd h (by decide)
theorem unpE_len (k : Nat) (p : List (BitVec 8)) (raw : Int) (h : (unpE k p raw).2 = 0) : ((unpE k p raw).1.length : Int) = raw := by
  unfold unpE at h ⊢
  by_cases h0 : k = 0
  · rw [if_pos h0] at h ⊢
    by_cases h1 : (p.length : Int) = raw
    · rw [if_pos h1]; exact h1
    · rw [if_neg h1] at h; exact absurd h (by decide)
  rw [if_neg h0] at h ⊢
  by_cases h1 : k = 1
  · rw [if_pos h1] at h ⊢
    exact lz_len2 p raw (by simpa using h)
  · rw [if_neg h1] at h ⊢
    exact huff_len2 p raw h
/-- A payload with its flag behind it. -/
theorem unp_flag (p : List (BitVec 8)) (f : BitVec 8) (raw : Int) : unpOk (p ++ [f]) raw = decide (raw ≤ 64 * (p.length : Int) ∧ f.toNat < 3 ∧ (unpE f.toNat p raw).2 = 0) ∧ unpT (p ++ [f]) raw = (unpE f.toNat p raw).1 := by
  have e1 : (p ++ [f]).length - 1 = p.length := by simp
  have e2 : (p ++ [f]).getD p.length 0 = f := by rw [List.getD_eq_getElem?_getD, List.getElem?_append_right (Nat.le_refl _)]; simp
  have e3 : (p ++ [f]).take p.length = p := by simp
  unfold unpOk unpT
  rw [e1, e2, e3]
  exact ⟨decide_eq_decide.2 ⟨fun h => h.2, fun h => ⟨by simp, h⟩⟩, rfl⟩
/-- A right text. -/
theorem right_text (T : List (BitVec 8)) (hT : T.length ≤ 65536) (h : rightT T = true) :
    ∃ L G, L.length = ctN T ∧ RG (T.take (ctE T)) (ctP T) (ctR T) G L ∧ OkB (ctR T) L ∧ L ≠ [] ∧ (rawE (ctR T) L).length = T.length ∧ 1 ≤ ctR T ∧ ctR T ≤ 64 ∧ 8 ≤ T.length := by
  unfold rightT at h
  rw [Bool.and_eq_true] at h
  obtain ⟨hc, hf⟩ := h
  obtain ⟨f1, f2, f3, f4, f5, f6, f7, f8, f9, f10, f11⟩ := cut_facts T hc
  have hc2 := hc
  unfold cutOk at hc2
  rw [Bool.and_eq_true] at hc2
  have hC := hc2.2
  unfold cutC at hC
  rw [Bool.and_eq_true, beq_iff_eq] at hC
  have hlast : (ctP T).getD (ctG T) 0 = ((T.take (ctE T)).length : Int) := by
    rw [f5]
    unfold ctP
    rw [List.getD_eq_getElem?_getD, List.getElem?_append_right (by rw [tabS_len]; exact Nat.le_refl _), tabS_len, Nat.sub_self]
    rfl
  obtain ⟨L, hL, hRG, hes⟩ := right_rg _ _ _ _ _ f1 f2 hC.1 hlast f3 f4 (by rw [f5]; omega) (by omega) f6 f7 (by omega) hf
  have hne : L ≠ [] := by intro e; rw [e] at hL; simp at hL; omega
  have hg : grpN (ctR T) L.length = ctG T := by rw [hL]; unfold ctG; exact (grp_div (ctR T) (ctN T) (by omega) (by omega)).symm
  have hlen : (rawE (ctR T) L).length = T.length := by rw [rawE_len, hes, f5, hg]; omega
  obtain ⟨g1, g2, g3, g4, g5, g6, g7, g8, g9, g10, g11, g12⟩ := hRG
  exact ⟨L, ctG T, hL, ⟨g1, g2, g3, g4, g5, g6, g7, g8, g9, g10, g11, g12⟩, ⟨g12, g11, by omega⟩, hne, hlen, f6, f7, by omega⟩
theorem getD_take (L : List En) (k i : Nat) (h : i < k) : (L.take k).getD i dE = L.getD i dE := by
  rw [List.getD_eq_getElem?_getD, List.getElem?_take_of_lt h, List.getD_eq_getElem?_getD]
theorem encA_take (r : Nat) (L : List En) (k : Nat) : ∀ i, i ≤ k → encA r (L.take k) i = encA r L i
  | 0, _ => rfl
  | i + 1, h => by
    unfold encA
    rw [encA_take r L k i (by omega)]
    congr 1
    unfold enc1 cmAt
    rw [getD_take L k i (by omega)]
    by_cases h0 : i % r = 0
    · rw [if_pos h0, if_pos h0]
    · rw [if_neg h0, if_neg h0, getD_take L k (i - 1) (by omega)]
theorem grpN_mono (r a b : Nat) (h : a ≤ b) : grpN r a ≤ grpN r b := Nat.div_le_div_right (by omega)
/-- The first entries of some. -/
theorem ok_take {r : Nat} {L : List En} (h : OkB r L) (k : Nat) (hk : k ≤ L.length) : OkB r (L.take k) := by
  refine ⟨fun e he => h.1 e (List.mem_of_mem_take he), ?_, ?_⟩
  · have h2 := h.2.1
    rw [← List.take_append_drop k L, rises_app, Bool.and_eq_true] at h2
    exact h2.1
  · have h3 := h.2.2
    rw [rawE_len] at h3 ⊢
    have hl : (L.take k).length = k := by rw [List.length_take]; omega
    have e1 : esL r (L.take k) = encA r L k := by unfold esL; rw [hl, encA_take r L k k (Nat.le_refl _)]
    have h4 := pos_mono r L k (L.length - k)
    rw [Nat.add_sub_cancel' hk] at h4
    have h5 := grpN_mono r k L.length hk
    rw [e1, hl]
    have h6 : pos r L L.length = (esL r L).length := rfl
    have h7 : pos r L k = (encA r L k).length := rfl
    omega
theorem take_next (L : List En) (k : Nat) (h : k < L.length) : L.take (k + 1) = L.take k ++ [((L.getD k dE).1, (L.getD k dE).2)] := by
  rw [List.take_add_one, List.getElem?_eq_getElem h, List.getD_eq_getElem?_getD, List.getElem?_eq_getElem h]
  rfl
/-- A builder takes entries again. -/
theorem add_again {r : Nat} {L : List En} (h : OkB r L) (hr : 0 < r) (k : Nat) (hk : k < L.length) : addA r 65536 (L.take k) (L.getD k dE).1 (L.getD k dE).2 = 0 := by
  have hm : L.getD k dE ∈ L := by rw [List.getD_eq_getElem?_getD, List.getElem?_eq_getElem hk]; exact List.getElem_mem _
  have hs := h.1 _ hm
  have hnx := take_next L k hk
  have hok := ok_take h (k + 1) (by omega)
  rw [hnx] at hok
  have hes := esL_snoc r (L.take k) (L.getD k dE).1 (L.getD k dE).2 hr
  have hps := psL_snoc r (L.take k) ((L.getD k dE).1, (L.getD k dE).2) hr
  have hri := hok.2.1
  rw [rises_snoc, Bool.and_eq_true] at hri
  have hor := of_decide_eq_true hri.2
  have hlen := hok.2.2
  unfold rawE at hlen
  rw [rawL_len, hes, hps] at hlen
  unfold addA addE
  rw [if_neg (by omega), if_neg (by simp only at hor; omega), if_neg]
  rintro ⟨h1, h2⟩
  obtain ⟨tb, htb⟩ : ∃ tb, restB (L.take k).length (psL r (L.take k)).length (r : Int) = tb := ⟨_, rfl⟩
  rw [htb] at hlen h2
  have hpl : (plB tb (esL r (L.take k)).length (psL r (L.take k))).length * 4 = 4 * (psL r (L.take k)).length + roomB tb := by
    unfold plB roomB
    cases tb with
    | true => simp only [if_true, List.length_append, List.length_cons, List.length_nil]; omega
    | false => simp only [Bool.false_eq_true, if_false]; omega
  rw [List.length_append] at hlen
  unfold sizeB at h2
  rw [if_neg (by omega)] at h2
  omega
/-- The two numbers at the end. -/
theorem ct_words (T : List (BitVec 8)) (h8 : 8 ≤ T.length) : ctR T = word ((T.drop (T.length - 8)).take 4) ∧ ctN T = word (T.drop (T.length - 4)) := by
  have e1 : fixAt (T.drop (T.length - 8)) 4 = (word ((T.drop (T.length - 8)).take 4), 4, 0) := by
    unfold fixAt
    rw [if_neg (by decide), if_neg (by rw [List.length_drop]; omega)]
    rfl
  have f1 : fixS (tailS T) 4 = (word ((T.drop (T.length - 8)).take 4), some ((T.drop (T.length - 8)).drop 4)) := by
    unfold tailS fixS
    simp only
    rw [e1]
    rfl
  have hd : (T.drop (T.length - 8)).drop 4 = T.drop (T.length - 4) := by rw [List.drop_drop]; congr 1; omega
  have e2 : fixAt (T.drop (T.length - 4)) 4 = (word ((T.drop (T.length - 4)).take 4), 4, 0) := by
    unfold fixAt
    rw [if_neg (by decide), if_neg (by rw [List.length_drop]; omega)]
    rfl
  have ht : (T.drop (T.length - 4)).take 4 = T.drop (T.length - 4) := List.take_of_length_le (by rw [List.length_drop]; omega)
  refine ⟨by unfold ctR; rw [f1], ?_⟩
  unfold ctN
  rw [f1, hd]
  unfold fixS
  simp only
  rw [e2, ht]
  rfl
end Go.Proofs.YthdblnfohbldcaaGreat.Bl
