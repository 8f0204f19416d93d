/-
  Check, and the statements' own: ones; a list of texts that grows.
-/
import Derived.Test.YtmndjgmlndpgaaaDoorFiAll
namespace Go.Proofs.YtmndjgmlndpgaaaDoor.Filt
open Go.ChangeShapes Go.WideShapes Go.ChangeAt Go.RowKit
open Go.Proofs.YtmndjgmlndpgaaaDoor.Base hiding hide unhide lt8
set_option linter.unusedVariables false
set_option maxHeartbeats 1000000 in
set_option maxRecDepth 100000 in
theorem check_any (A : Bool) (H : Int) (a : Option Addr) (len cap : Nat) (w : World) (hK : KAt w) (hl : len ≤ 9223372036854775807) :
    Calls Tryd.prog 13 #[.agg #[.bool A, .int .i64 H, .slice a len cap]] w fun e w' => e = .returned (.int .i64 (if kindN A H len = 3 then 70 else 0)) ∧ Below w.heap.size w w' := by
  obtain ⟨w1, hw1⟩ : ∃ w1, w.alloc (.cells #[.bool A, .int .i64 H, .slice a len cap] 24) = w1 := ⟨_, rfl⟩
  have hb1 : Below w.heap.size w w1 := by rw [← hw1]; exact (Below.refl _ _).alloc (Nat.le_refl _) _
  have hF : FB w1 w.heap.size A H (.slice a len cap) := by rw [← hw1]; exact FB.new _ _ _ _
  obtain ⟨p, hp0⟩ : ∃ p, w.heap.size = p := ⟨_, rfl⟩
  rw [hp0] at hF
  have f0 := hF.c0
  have f1 := hF.c1
  have f2 := hF.c2
  have HS := hide hp0
  have HB1 := hide hb1
  have HKI := hide (kind_any A H a len cap w1 (kat_below hK hb1) hl)
  obtain ⟨kk, hkk⟩ : ∃ kk, kindN A H len = kk := ⟨_, rfl⟩
  rw [hkk] at HKI ⊢
  obtain ⟨R, hR⟩ : ∃ R : Int, (if kk = 3 then (70 : Int) else 0) = R := ⟨_, rfl⟩
  rw [hR]
  have HRR := hide hR
  clear hK hb1 hF hkk hR
  go_enter Tryd.func13, Tryd.ntmps13
  go_wp2_with fail
  refine HKI.out.mono ?_
  rintro e w2 ⟨rfl, hb2⟩
  have HB2 : Hid (Below w.heap.size w w2) := HB1.out.trans (hb2.mono HB1.out.size)
  clear hb2
  by_cases h3 : kk = 3
  · have hk3 : (kk == 3) = true := by rw [beq_iff_eq]; exact h3
    have HI : Hid (R = 70) := HRR.out.symm.trans (if_pos h3)
    clear h3 HRR
    go_wp2_with fail
    go_ret
    rw [HI.out]
    exact ⟨rfl, by first | exact HB2.out | (rw [← HS.out]; exact HB2.out)⟩
  · have hk3 : (kk == 3) = false := by rw [beq_eq_false_iff_ne]; exact h3
    have HI : Hid (R = 0) := HRR.out.symm.trans (if_neg h3)
    clear h3 HRR
    go_wp2_with fail
    go_ret
    rw [HI.out]
    exact ⟨rfl, by first | exact HB2.out | (rw [← HS.out]; exact HB2.out)⟩
theorem ones8_step (x : BitVec 8) (k : Nat) : ones8 x (k + 1) = ones8 x k + x.toNat / 2 ^ k % 2 := rfl
theorem onesL_take (bs : List (BitVec 8)) (k : Nat) (h : k < bs.length) : onesL (bs.take (k + 1)) = onesL (bs.take k) + ones8 (bs.getD k 0) 8 := by
  rw [getD_take bs k h, onesL_append]
  simp [onesL]
theorem built_back (ss : List ByteArray) (b : Int) : builtF ss.reverse b = builtF ss b := by
  unfold builtF
  rw [List.length_reverse]
  split
  · rfl
  · split
    · rfl
    · split
      · rfl
      · rw [laid_back ss _ _ (bytesOfK_pos _).1]
theorem built_ones (ss : List ByteArray) (b : Int) : ∃ h : Nat, (builtF ss b).1.hashes = (h : Int) ∧ h ≤ 8 ∧ onesL (builtF ss b).1.data ≤ h * ss.length := by
  unfold builtF
  split
  · exact ⟨0, rfl, by omega, by simp [zeroF, onesL]⟩
  · split
    · exact ⟨0, rfl, by omega, by simp [zeroF, onesL]⟩
    · split
      · exact ⟨0, rfl, by omega, by simp [onesL]⟩
      · refine ⟨hashesOf b.toNat, rfl, (hashesOf_le _).2, ?_⟩
        have h := onesL_laid ss (hashesOf b.toNat) (List.replicate (bytesOfK (ss.length * b.toNat)) 0) (by rw [List.length_replicate]; exact (bytesOfK_pos _).1)
        rw [onesL_zero, Nat.zero_add] at h
        exact h
/-- Filters of as many keys: what both set. -/
theorem built_pair (ss ts : List ByteArray) (b : Int) (h0 : 0 ≤ b) (h1 : b ≤ 16) (hl : ss.length = ts.length) :
    (builtF ss b).1.all = (builtF ts b).1.all ∧ (builtF ss b).1.hashes = (builtF ts b).1.hashes ∧ (builtF ss b).1.data.length = (builtF ts b).1.data.length ∧
      joined (builtF ss b).1 (builtF ts b).1 = (⟨(builtF ss b).1.all, (builtF ss b).1.hashes, orZip (builtF ss b).1.data (builtF ts b).1.data⟩, 0) := by
  have k1 := (built_ok ss b h0 h1).2.1
  have k2 := (built_ok ts b h0 h1).2.1
  have key : (builtF ss b).1.all = (builtF ts b).1.all ∧ (builtF ss b).1.hashes = (builtF ts b).1.hashes ∧ (builtF ss b).1.data.length = (builtF ts b).1.data.length := by
    have hb : ¬ (b < 0 ∨ 16 < b) := by omega
    by_cases h : ts.length = 0
    · have e1 : builtF ss b = (zeroF, 0) := by unfold builtF; rw [if_neg hb, if_pos (hl.trans h)]
      have e2 : builtF ts b = (zeroF, 0) := by unfold builtF; rw [if_neg hb, if_pos h]
      rw [e1, e2]; exact ⟨rfl, rfl, rfl⟩
    · have h' : ¬ ss.length = 0 := by rw [hl]; exact h
      by_cases h2 : b = 0 ∨ 65536 < ts.length
      · have e1 : builtF ss b = (⟨true, 0, []⟩, 0) := by unfold builtF; rw [if_neg hb, if_neg h', if_pos (by rw [hl]; exact h2)]
        have e2 : builtF ts b = (⟨true, 0, []⟩, 0) := by unfold builtF; rw [if_neg hb, if_neg h, if_pos h2]
        rw [e1, e2]; exact ⟨rfl, rfl, rfl⟩
      · have e1 : builtF ss b = (⟨false, (hashesOf b.toNat : Nat), laidBits ss (hashesOf b.toNat) (List.replicate (bytesOfK (ss.length * b.toNat)) 0)⟩, 0) := by unfold builtF; rw [if_neg hb, if_neg h', if_neg (by rw [hl]; exact h2)]
        have e2 : builtF ts b = (⟨false, (hashesOf b.toNat : Nat), laidBits ts (hashesOf b.toNat) (List.replicate (bytesOfK (ts.length * b.toNat)) 0)⟩, 0) := by unfold builtF; rw [if_neg hb, if_neg h, if_neg h2]
        rw [e1, e2]
        refine ⟨rfl, rfl, ?_⟩
        show (laidBits _ _ _).length = (laidBits _ _ _).length
        rw [laidBits_len, laidBits_len, List.length_replicate, List.length_replicate, hl]
  refine ⟨key.1, key.2.1, key.2.2, ?_⟩
  generalize (builtF ss b).1 = X at k1 key
  generalize (builtF ts b).1 = Y at k2 key
  obtain ⟨e1, e2, e3⟩ := key
  obtain ⟨XA, XH, XD⟩ := X
  obtain ⟨YA, YH, YD⟩ := Y
  simp only at e1 e2 e3
  subst e1 e2
  have hk : (⟨XA, XH, YD⟩ : Fw).kind = (⟨XA, XH, XD⟩ : Fw).kind := by unfold Fw.kind; simp only; rw [e3]
  unfold joined
  rw [hk, if_neg (by rintro (h | h) <;> exact k1 h)]
  rcases kind_cases ⟨XA, XH, XD⟩ with h | h | h | h
  · obtain ⟨g1, g2, g3⟩ := Fw.mk.inj h
    subst g1 g2 g3
    have : YD = [] := List.length_eq_zero_iff.1 e3.symm
    subst this
    rfl
  · obtain ⟨g1, g2, g3⟩ := Fw.mk.inj h
    subst g1 g2 g3
    have : YD = [] := List.length_eq_zero_iff.1 e3.symm
    subst this
    rfl
  · obtain ⟨g1, _⟩ := fw_two h
    simp only at g1
    subst g1
    rw [if_neg (by rw [h]; omega), if_neg (by rw [h]; omega), if_neg (by rw [h]; omega), if_neg (by simp [e3])]
  · exact absurd h k1
theorem orZip_get (xs ys : List (BitVec 8)) (h : xs.length = ys.length) (i : Nat) (hi : i < xs.length) : (orZip xs ys).getD i 0 = xs.getD i 0 ||| ys.getD i 0 := by
  unfold orZip
  rw [List.getD_eq_getElem?_getD, List.getElem?_zipWith, List.getElem?_eq_getElem hi, List.getElem?_eq_getElem (h ▸ hi), List.getD_eq_getElem?_getD, List.getElem?_eq_getElem hi, List.getD_eq_getElem?_getD, List.getElem?_eq_getElem (h ▸ hi)]
  rfl
theorem rev_take (ss : List ByteArray) (j : Nat) (h : j < ss.length) : ss.reverse.take (j + 1) = ss.reverse.take j ++ [ss.getD (ss.length - 1 - j) ⟨#[]⟩] := by
  have h2 : j < ss.reverse.length := by rw [List.length_reverse]; exact h
  rw [List.take_succ_eq_append_getElem h2, List.getElem_reverse, List.getD_eq_getElem?_getD, List.getElem?_eq_getElem (by omega)]
  rfl
/-- Texts as cells. -/
def svals (ss : List ByteArray) : List Value := ss.map Value.string
theorem svals_len (ss : List ByteArray) : (svals ss).length = ss.length := by simp [svals]
theorem svals_append (a b : List ByteArray) : svals (a ++ b) = svals a ++ svals b := by simp [svals]
/-- A list of texts of the call's own. -/
def OwnS (w : World) (base : Nat) (v : Value) (ss : List ByteArray) : Prop := w.ownsRow base 9 1 v ss.length (svals ss)
theorem infoS : (Tryd.prog.info? 9).map (fun i => (i.zero, i.size, i.bytes)) = some (some (.string ⟨#[]⟩), 1, 16) := by kernel_rfl
theorem owns_none (w : World) (base : Nat) : OwnS w base (.slice none 0 0) [] := ⟨by simp [svals], .inl ⟨rfl, rfl⟩⟩
theorem OwnS.shape {w : World} {base : Nat} {v : Value} {ss : List ByteArray} (h : OwnS w base v ss) : ∃ a c, v = .slice a ss.length c := by
  rcases h.2 with ⟨h1, h2⟩ | ⟨g, c, cur, h1, _⟩
  · rw [h2]; exact ⟨_, _, h1⟩
  · exact ⟨_, _, h1⟩
theorem OwnS.below {w w' : World} {base : Nat} {v : Value} {ss : List ByteArray} (h : OwnS w base v ss) (hb : Below w.heap.size w w') : OwnS w' base v ss := by
  refine World.ownsRow.kept (row := none) h (below_grown hb) ?_
  cases hv : v.ownBlock with
  | none => exact .inl rfl
  | some k => exact .inr (by simp)
theorem OwnS.rds {w : World} {base n c : Nat} {a : Option Addr} {ss : List ByteArray} (h : OwnS w base (.slice a n c) ss) (hl : ss.length ≤ 140737488355328) (hs : ∀ s ∈ ss, s.size ≤ 9223372036854775807) : RdS w a n ss := by
  rcases h.2 with ⟨h1, h2⟩ | ⟨g, cap', cur, h1, _⟩
  · simp only [Value.slice.injEq] at h1
    obtain ⟨rfl, rfl, rfl⟩ := h1
    have : ss = [] := List.length_eq_zero_iff.1 h2
    subst this
    exact rds_nil _
  · simp only [Value.slice.injEq] at h1
    obtain ⟨rfl, h2, rfl⟩ := h1
    subst h2
    refine ⟨rfl, hl, hs, fun hp => ⟨g, 0, rfl, (World.ownsRow.lt h g rfl).2, fun i hi => ?_⟩⟩
    rw [Nat.zero_add, World.ownsRow.cellAt h i (by omega), svals, List.getElem?_map, List.getElem?_eq_getElem hi, List.getD_eq_getElem?_getD, List.getElem?_eq_getElem hi]
    rfl
/-- append of one text onto a list of the call's own. -/
theorem pushS {ops : Array Oper} {rest : List Oper} {o : Oper} {a : Act} {Q : Exit → Act → World → Prop} (w : World) (hgd : o.guard = none) (s x : Operand)
    (ho : o.op = .call { callee := .builtin .append, args := #[s, x], argTypes := #[25, 25] })
    (base : Nat) (v : Value) (ss : List ByteArray) (hs : a.eval s = v) (hown : OwnS w base v ss) (ad : Addr) (cap : Nat) (c : ByteArray) (hx : a.eval x = .slice (some ad) 1 cap)
    (hc : w.cell? (ad.add 0) = some (.string c)) (hl : ss.length + 1 ≤ 8796093022208) (hbase : base ≤ w.heap.size)
    (h : ∀ v' w', OwnS w' base v' (ss ++ [c]) → w.grownBy w' v.ownBlock → wpList Tryd.prog ops Q rest (a.put o.dst v') w') : wpList Tryd.prog ops Q (o :: rest) a w := by
  obtain ⟨i0, hi, hz0, hz1, hz2⟩ := info_parts infoS
  refine wpList_append_own w hgd s x 25 ho base 9 i0 (.string ⟨#[]⟩) 1 16 Tryd.underlying25 hi hz0 hz1 hz2 rfl (by omega) v ss.length (svals ss) hs hown ad 1 cap [.string c] hx rfl ?_ ?_ (by unfold maxLen; omega) (by omega) hbase ?_
  · intro j u hu
    cases j with
    | zero => simp at hu; subst hu; exact hc
    | succ j => simp at hu
  · intro u hu
    simp at hu
    subst hu
    rfl
  · intro v' w' h1 h2 _
    refine h v' w' ?_ h2
    unfold OwnS
    rw [List.length_append, svals_append]
    exact h1
end Go.Proofs.YtmndjgmlndpgaaaDoor.Filt
