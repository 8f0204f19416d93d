/-
  Two answers that share nothing; texts that are kept.
-/
import Derived.Test.YtficnlglofgekaaDoorJcTexts
namespace Go.Proofs.YtficnlglofgekaaDoor.Jb
open Go.ChangeShapes Go.WideShapes Go.ChangeAt Go.RowKit
open Go.Lib hiding intOf
open Go.Proofs.YtficnlglofgekaaDoor.Base
open Go.Proofs.YtficnlglofgekaaDoor.Pa (OwnS RdS)
set_option linter.unusedVariables false
theorem grown_more {w wr w' : World} {q q2 : Option Nat} (h1 : w.grownBy wr q) (h2 : wr.grownBy w' q2) (hq : ∀ i, q2 = some i → q = some i ∨ w.heap.size ≤ i) : w.grownBy w' q :=
  ⟨h2.os.trans h1.os, h2.tape.trans h1.tape, h2.output.trans h1.output, Nat.le_trans h1.size h2.size, fun k hk hne => (h2.block k (Nat.lt_of_lt_of_le hk h1.size) (fun e => by
    rcases hq k e.symm with h | h
    · exact hne h.symm
    · omega)).trans (h1.block k hk hne)⟩
theorem grown_of_below {w w' : World} {q : Option Nat} (hb : Below w.heap.size w w') : w.grownBy w' q := ⟨hb.os, hb.tape, hb.output, hb.size, fun k hk _ => hb.block k hk⟩
/-- append of one text, and where it lies. -/
theorem pushL {ops : Array Oper} {rest : List Oper} {o : Oper} {a : Act} {Q : Exit → Act → World → Prop} (w : World) (hgd : o.guard = none) (s x : Operand)
    (ho : o.op = .call { callee := .builtin .append, args := #[s, x], argTypes := #[32, 32] })
    (base : Nat) (v : Value) (ss : List ByteArray) (hs : a.eval s = v) (hown : OwnS w base v ss) (g0 : Nat) (p : ByteArray) (hx : a.eval x = .slice (some ⟨g0, 0, none⟩) 1 1)
    (hr : w.heap[g0]? = some (.cells #[.string p] 9)) (hl : (ss.length + 1) * 16 ≤ 140737488355328) (hbase : base ≤ w.heap.size)
    (h : ∀ g cap w', OwnS w' base (.slice (some ⟨g, 0, none⟩) (ss.length + 1) cap) (ss ++ [p]) → w.grownBy w' v.ownBlock → (v.ownBlock = some g ∨ g = w.heap.size) → wpList Tryd.prog ops Q rest (a.put o.dst (.slice (some ⟨g, 0, none⟩) (ss.length + 1) cap)) w') : wpList Tryd.prog ops Q (o :: rest) a w := by
  obtain ⟨i0, hi, hz0, hz1, hz2⟩ := info_parts Pa.infoS
  refine wpList_append_lies w hgd s x 32 ho base 9 i0 _ 1 16 Tryd.underlying32 hi hz0 hz1 hz2 rfl (by omega) v ss.length (Pa.svals ss) hs hown ⟨g0, 0, none⟩ 1 1 (Pa.svals [p]) hx rfl (fun j u hu => ?_) (Pa.svals_one _) (by omega) (by unfold maxLen; omega) hl hbase w.heap.size rfl ?_
  · match j, hu with
    | 0, hu =>
      have e : some (Value.string p) = some u := hu
      show w.cell? ⟨g0, 0, none⟩ = some u
      rw [← e, cell_of_row _ _ _ _ _ _ hr]; rfl
    | j + 1, hu => cases hu
  · intro g cap w' h1 h2 h3 _
    exact h g cap w' (by unfold OwnS; rw [List.length_append, Pa.svals_append]; exact h1) h2 h3
structure LoneI (w wr : World) (base : Nat) (xa v : Value) (n : Nat) (qs : List ByteArray) : Prop where
  own : OwnS wr base v qs
  len : qs.length = n
  blk : ∀ i, v.ownBlock = some i → xa.ownBlock = some i ∨ w.heap.size ≤ i
  grown : w.grownBy wr xa.ownBlock
set_option maxHeartbeats 2000000 in
set_option maxRecDepth 100000 in
theorem lone_any (aa ab ac : Option Addr) (n ca cb cc base b2 b3 : Nat) (L : List ByteArray) (w : World) (hA : OwnS w base (.slice aa n ca) L) (hB : OwnS w b2 (.slice ab n cb) L) (hC : OwnS w b3 (.slice ac n cc) L) (hbase : base ≤ w.heap.size) (hl : L.length ≤ 1048580) (hs : ∀ s ∈ L, s.size ≤ 9223372036854775807)
    (hab : ∀ i, (Value.slice aa n ca).ownBlock = some i → (Value.slice ab n cb).ownBlock ≠ some i ∧ (Value.slice ac n cc).ownBlock ≠ some i) :
    Calls Tryd.prog 15 #[.slice aa n ca, .slice ab n cb, .slice ac n cc] w fun e w' => e = .returned (.bool true) ∧ w.grownBy w' (Value.slice aa n ca).ownBlock := by
  have hnl : n = L.length := hA.cap.1
  have HS := hide hs
  have HA := hide hA
  have HB := hide hB
  have HC := hide hC
  have HAB := hide hab
  have HLL := hide hl
  have hn8 : n ≤ 1048580 := by omega
  have HNL := hide hnl
  have HS1 := hide (sameTexts_eq aa ac n ca n cc L w (hA.rds (by omega) hs) (hC.rds (by omega) hs))
  obtain ⟨xa, hxa⟩ : ∃ xa, Value.slice aa n ca = xa := ⟨_, rfl⟩
  have HXA := hide hxa
  clear hA hB hC hab hl hs hnl hxa
  go_enter Tryd.func15, Tryd.ntmps15
  go_wp2_with (go_at_call 19; refine HS1.out.mono ?_; rintro e w1 ⟨rfl, hb1⟩; have HI1 : Hid (LoneI w w1 base xa (.slice aa n ca) n L) := ⟨HA.out.below hb1, HNL.out.symm, (fun i e => .inl (by rw [← HXA.out]; exact e)), grown_of_below hb1⟩; clear hb1)
  clear HS1
  go_loopw [7] (fun s7 wr => ∃ (i : Nat) (qs : List ByteArray), i ≤ n ∧ .int .i64 (i : Int) = s7 ∧ Hid (LoneI w wr base xa (.slice aa n ca) n qs)) (fun s7 _ => n - (intOf s7).toNat)
  case atStart => exact ⟨0, L, by omega, rfl, HI1.out⟩
  case round =>
    obtain ⟨i, qs, hi, rfl, HI⟩ := hrel
    by_cases hin : i < n
    · have hii : (i : Int) < (n : Int) := by omega
      have hi0 : (0 : Int) ≤ (i : Int) := by omega
      obtain ⟨g, rfl⟩ : ∃ g, aa = some ⟨g, 0, none⟩ := by
        rcases HI.out.own.2 with ⟨_, h2⟩ | ⟨g, _, _, h1, _⟩
        · rw [HI.out.len] at h2; omega
        · simp only [Value.slice.injEq] at h1; exact ⟨g, h1.1⟩
      have hc0 := HI.out.own.cell i hin
      have hf0 := HI.out.own.frozen i
      have HST := hide (HI.out.own.store i ⟨#[109, 97, 114, 107, 101, 100]⟩)
      go_wp2_with fail
      go_roundw
      case rel => exact ⟨i + 1, _, by omega, by go_num, ⟨HST.out.1, by rw [List.length_set]; exact HI.out.len, HI.out.blk, grown_more HI.out.grown HST.out.2 (fun k e => HI.out.blk k e)⟩⟩
      case measure => (simp [intOf] <;> omega)
    · have hii : ¬ (i : Int) < (n : Int) := by omega
      rename World => V0
      go_wp2_with fail
      go_loopw [0, 8] (fun s0 s8 wr => ∃ (j m : Nat) (v : Value) (qs : List ByteArray), j ≤ 64 ∧ m = n + j ∧ v = s0 ∧ .int .i64 (j : Int) = s8 ∧ Hid (LoneI w wr base xa v m qs)) (fun _ s8 _ => 64 - (intOf s8).toNat)
      case atStart => exact ⟨0, n, _, qs, by omega, rfl, rfl, rfl, HI.out⟩
      case round =>
        obtain ⟨j, m, v, qs, hj, hm, rfl, rfl, HQ⟩ := hrel
        by_cases hjn : j < 64
        · have hjj : (j : Int) < 64 := by omega
          obtain ⟨wa, hwa⟩ : ∃ wa, wr.alloc (.cells #[.string ⟨#[98, 101, 104, 105, 110, 100]⟩] 9) = wa := ⟨_, rfl⟩
          have HBA : Hid (Below wr.heap.size wr wa) := by rw [← hwa]; exact (Below.refl _ _).alloc (Nat.le_refl _) _
          have HCA : Hid (wa.heap[wr.heap.size]? = some (.cells #[.string ⟨#[98, 101, 104, 105, 110, 100]⟩] 9)) := by rw [← hwa]; exact heap_alloc_new _ _
          have HJ := hide hm
          clear hm
          go_wp2_with (at_builtin; refine pushL wa rfl _ _ rfl base v qs rfl (HQ.out.own.below HBA.out) wr.heap.size ⟨#[98, 101, 104, 105, 110, 100]⟩ rfl HCA.out (by have := HQ.out.len; have := HJ.out; omega) (by have := HQ.out.grown.size; have := HBA.out.size; omega) ?_; intro g c4 w4 ho4 hg4 hw4; have HP4 : Hid (LoneI w w4 base xa (.slice (some ⟨g, 0, none⟩) (qs.length + 1) c4) (m + 1) (qs ++ [⟨#[98, 101, 104, 105, 110, 100]⟩])) := ⟨ho4, (by rw [List.length_append, HQ.out.len]; rfl), (fun k e => by have e2 : g = k := Option.some.inj e; subst e2; rcases hw4 with h | h; exact HQ.out.blk g h; right; have := HQ.out.grown.size; have := HBA.out.size; omega), grown_more (grown_more HQ.out.grown (grown_of_below (q := none) HBA.out) (fun k e => by cases e)) hg4 (fun k e => HQ.out.blk k e)⟩; clear ho4 hg4 hw4)
          go_roundw
          case rel => exact ⟨j + 1, m + 1, _, _, by omega, by have := HJ.out; omega, rfl, by go_num, HP4.out⟩
          case measure => (simp [intOf] <;> omega)
        · have hjj : ¬ (j : Int) < 64 := by omega
          have HB2 := hide (Pa.keepS HB.out HQ.out.grown (fun i k e1 e2 e3 => by subst e3; exact (HAB.out i (by rw [HXA.out]; exact e2)).1 e1))
          have HC2 := hide (Pa.keepS HC.out HQ.out.grown (fun i k e1 e2 e3 => by subst e3; exact (HAB.out i (by rw [HXA.out]; exact e2)).2 e1))
          have HS2 := hide (sameTexts_eq ab ac n cb n cc L wr (HB2.out.rds (by have := HLL.out; omega) HS.out) (HC2.out.rds (by have := HLL.out; omega) HS.out))
          go_wp2_with (go_at_call 19; refine HS2.out.mono ?_; rintro e w6 ⟨rfl, hb6⟩; have HB6 : Hid (w.grownBy w6 xa.ownBlock) := grown_more HQ.out.grown (grown_of_below (q := none) hb6) (fun k e => by cases e); clear hb6)
          go_ret
          rw [HXA.out]
          exact ⟨rfl, HB6.out⟩
end Go.Proofs.YtficnlglofgekaaDoor.Jb
