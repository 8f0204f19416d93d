/-
  Entries and their bytes, there and back.
-/
import Derived.Test.YtbmbhcjocgbbpabFaNext
import Derived.Test.YtbmbhcjocgbbpabFaEnc
import Derived.Test.YtbmbhcjocgbbpabFaOpen
namespace Go.Proofs.Ytbmbhcjocgbbpab.Fa
open Go.ChangeShapes Go.WideShapes Go.ChangeAt Go.RowKit
open Go.Proofs.Ytbmbhcjocgbbpab.Base Go.Proofs.Ytbmbhcjocgbbpab.Nums Go.Proofs.Ytbmbhcjocgbbpab.Curs
set_option linter.unusedVariables false
/-- n entries are read. -/
def stepsS : Nat → St → List Flt × St
  | 0, s => ([], s)
  | n + 1, s => ((stepsS n s).1 ++ [(nextS (stepsS n s).2).1], (nextS (stepsS n s).2).2)
theorem stepsS_len : ∀ n s, (stepsS n s).1.length = n
  | 0, s => rfl
  | n + 1, s => by
    show ((stepsS n s).1 ++ [_]).length = _
    rw [List.length_append, stepsS_len n s]; rfl
/-- Whose bytes are these? -/
def decS (b : List (BitVec 8)) : Option (List Flt) :=
  if (stepsS (numS (some b) 256).1 (numS (some b) 256).2).2 = some [] ∧ chk (stepsS (numS (some b) 256).1 (numS (some b) 256).2).1 = 0 then some (stepsS (numS (some b) 256).1 (numS (some b) 256).2).1 else none
theorem fixS_app (v n : Nat) (h1 : 1 ≤ n) (h8 : n ≤ 8) (rest : List (BitVec 8)) : fixS (some (fixed v n ++ rest)) (n : Int) = (v % 256 ^ n, some rest) := by
  have hl : (fixed v n).length = n := length_fixed v n
  have e : fixAt (fixed v n ++ rest) (n : Int) = (v % 256 ^ n, n, 0) := by
    unfold fixAt
    rw [if_neg (by omega), if_neg (by rw [List.length_append, hl]; omega)]
    simp only [Int.toNat_natCast]
    rw [List.take_left' hl, word_fixed v n h8]
  unfold fixS
  simp only [e]
  rw [if_pos trivial, List.drop_left' hl]
theorem numS_app (u : Nat) (most : Int) (h : (u : Int) ≤ most) (hu : u < 9223372036854775808) (rest : List (BitVec 8)) : numS (some (put u ++ rest)) most = (u, some rest) := by
  have e : atMost (put u ++ rest) most = (u, (put u).length, 0) := by
    unfold atMost
    rw [get_put u rest hu]
    simp only
    rw [if_neg (by omega), if_neg (by omega)]
  unfold numS
  simp only [e]
  rw [if_pos trivial, List.drop_left]
theorem fixS_inv {L L' : List (BitVec 8)} {n v : Nat} (h1 : 1 ≤ n) (h8 : n ≤ 8) (h : fixS (some L) (n : Int) = (v, some L')) : L = fixed v n ++ L' := by
  unfold fixS at h
  simp only at h
  split at h
  · rename_i h0
    unfold fixAt at h0 h
    rw [if_neg (by omega)] at h0 h
    by_cases hl : (L.length : Int) < (n : Int)
    · rw [if_pos hl] at h0; exact absurd h0 (by decide)
    · rw [if_neg hl] at h
      simp only [Int.toNat_natCast, Prod.mk.injEq, Option.some.injEq] at h
      obtain ⟨rfl, rfl⟩ := h
      have hn : (L.take n).length = n := by rw [List.length_take]; omega
      have := fixed_word_back (L.take n) (by omega)
      rw [hn] at this
      rw [this, List.take_append_drop]
  · simp at h
theorem numS_inv {L L' : List (BitVec 8)} {most : Int} {v : Nat} (h : numS (some L) most = (v, some L')) : L = put v ++ L' := by
  unfold numS at h
  simp only at h
  split at h
  · rename_i h0
    unfold atMost at h0 h
    rcases get_cases L with ⟨u, m, g1, g2, g3, g4, g5, g6⟩ | ⟨g1, g2⟩ | ⟨g1, g2⟩
    · rw [g1] at h0 h
      simp only at h0 h
      rw [if_neg (by omega)] at h0 h
      by_cases hm : most < (u : Int)
      · rw [if_pos hm] at h0; exact absurd h0 (by decide)
      · rw [if_neg hm] at h
        simp only [Prod.mk.injEq, Option.some.injEq] at h
        obtain ⟨rfl, rfl⟩ := h
        rw [g5, List.take_append_drop]
    · rw [g1] at h0; simp at h0
    · rw [g1] at h0; simp at h0
  · simp at h
theorem fixS_none (n : Int) : fixS none n = (0, none) := rfl
theorem numS_none (n : Int) : numS none n = (0, none) := rfl
theorem fixS_some {s : St} {n : Int} {v : Nat} {L' : List (BitVec 8)} (h : fixS s n = (v, some L')) : ∃ L, s = some L := by
  cases s with
  | none => simp [fixS_none] at h
  | some L => exact ⟨L, rfl⟩
theorem numS_some {s : St} {n : Int} {v : Nat} {L' : List (BitVec 8)} (h : numS s n = (v, some L')) : ∃ L, s = some L := by
  cases s with
  | none => simp [numS_none] at h
  | some L => exact ⟨L, rfl⟩
theorem one_fixed (K : Nat) : [B8 K] = fixed K 1 := by simp [fixed]
theorem enc_parts (f : Flt) (rest : List (BitVec 8)) : encF1 f ++ rest = fixed f.k.toNat 1 ++ (fixed f.j.toNat 1 ++ (put f.t.toNat ++ (put f.a.toNat ++ (fixed f.m.toNat 1 ++ (put f.r.toNat ++ (fixed (w64 f.p) 8 ++ (fixed f.q.toNat 4 ++ rest))))))) := by
  unfold encF1
  rw [← one_fixed, ← one_fixed, ← one_fixed]
  simp only [List.append_assoc, List.cons_append, List.nil_append]
theorem wrap_w64 (p : Int) (h1 : -9223372036854775808 ≤ p) (h2 : p ≤ 9223372036854775807) : wrap64 ((w64 p % 256 ^ 8 : Nat) : Int) = p := by
  unfold w64 wrap64
  rw [show (256 : Nat) ^ 8 = 18446744073709551616 by decide]
  omega
theorem w64_wrap (x : Nat) (h : x < 18446744073709551616) : w64 (wrap64 (x : Int)) = x := by
  unfold w64 wrap64
  omega
/-- What was written is read. -/
theorem next_enc (f : Flt) (h : may f = true) (hw : (Lit.int .i64 f.p).wf = true) (rest : List (BitVec 8)) : nextS (some (encF1 f ++ rest)) = (f, some rest) := by
  obtain ⟨h1, h2, h3, h4, h5, h6⟩ := may_nums h
  obtain ⟨p1, p2⟩ := wf_bounds hw
  obtain ⟨k, j, t, a, m, r, p, q⟩ := f
  simp only at h1 h2 h3 h4 h5 h6 p1 p2
  have e1 : ∀ R, fixS (some (fixed k.toNat 1 ++ R)) 1 = (k.toNat % 256 ^ 1, some R) := fun R => fixS_app k.toNat 1 (by omega) (by omega) R
  have e2 : ∀ R, fixS (some (fixed j.toNat 1 ++ R)) 1 = (j.toNat % 256 ^ 1, some R) := fun R => fixS_app j.toNat 1 (by omega) (by omega) R
  have e3 : ∀ R, numS (some (put t.toNat ++ R)) 65535 = (t.toNat, some R) := fun R => numS_app t.toNat 65535 (by omega) (by omega) R
  have e4 : ∀ R, numS (some (put a.toNat ++ R)) 16 = (a.toNat, some R) := fun R => numS_app a.toNat 16 (by omega) (by omega) R
  have e5 : ∀ R, fixS (some (fixed m.toNat 1 ++ R)) 1 = (m.toNat % 256 ^ 1, some R) := fun R => fixS_app m.toNat 1 (by omega) (by omega) R
  have e6 : ∀ R, numS (some (put r.toNat ++ R)) 65535 = (r.toNat, some R) := fun R => numS_app r.toNat 65535 (by omega) (by omega) R
  have e7 : ∀ R, fixS (some (fixed (w64 p) 8 ++ R)) 8 = (w64 p % 256 ^ 8, some R) := fun R => fixS_app (w64 p) 8 (by omega) (by omega) R
  have e8 : ∀ R, fixS (some (fixed q.toNat 4 ++ R)) 4 = (q.toNat % 256 ^ 4, some R) := fun R => fixS_app q.toNat 4 (by omega) (by omega) R
  rw [enc_parts]
  unfold nextS
  simp only [e1, e2, e3, e4, e5, e6, e7, e8]
  refine congrArg (fun g => (g, some rest)) ?_
  rw [wrap_w64 p p1 p2]
  have hq : BitVec.ofNat 32 (q.toNat % 256 ^ 4) = q := by
    apply BitVec.eq_of_toNat_eq
    rw [BitVec.toNat_ofNat]
    have := q.isLt
    omega
  rw [hq]
  simp only [Flt.mk.injEq, and_true]
  omega
/-- What was read was written so. -/
theorem next_inv {s : St} {f : Flt} {L' : List (BitVec 8)} (h : nextS s = (f, some L')) : ∃ L, s = some L ∧ L = encF1 f ++ L' := by
  unfold nextS at h
  simp only at h
  obtain ⟨X1, s1, e1⟩ : ∃ X1 s1, fixS s 1 = (X1, s1) := ⟨_, _, rfl⟩
  rw [e1] at h; simp only at h
  obtain ⟨X2, s2, e2⟩ : ∃ X2 s2, fixS s1 1 = (X2, s2) := ⟨_, _, rfl⟩
  rw [e2] at h; simp only at h
  obtain ⟨X3, s3, e3⟩ : ∃ X3 s3, numS s2 65535 = (X3, s3) := ⟨_, _, rfl⟩
  rw [e3] at h; simp only at h
  obtain ⟨X4, s4, e4⟩ : ∃ X4 s4, numS s3 16 = (X4, s4) := ⟨_, _, rfl⟩
  rw [e4] at h; simp only at h
  obtain ⟨X5, s5, e5⟩ : ∃ X5 s5, fixS s4 1 = (X5, s5) := ⟨_, _, rfl⟩
  rw [e5] at h; simp only at h
  obtain ⟨X6, s6, e6⟩ : ∃ X6 s6, numS s5 65535 = (X6, s6) := ⟨_, _, rfl⟩
  rw [e6] at h; simp only at h
  obtain ⟨X7, s7, e7⟩ : ∃ X7 s7, fixS s6 8 = (X7, s7) := ⟨_, _, rfl⟩
  rw [e7] at h; simp only at h
  obtain ⟨X8, s8, e8⟩ : ∃ X8 s8, fixS s7 4 = (X8, s8) := ⟨_, _, rfl⟩
  rw [e8] at h; simp only [Prod.mk.injEq] at h
  obtain ⟨rfl, rfl⟩ := h
  have b7 := fixS_lt s6 8 (by omega) (by omega)
  rw [show ((8 : Nat) : Int) = 8 from rfl, e7] at b7
  have b8 := fixS_lt s7 4 (by omega) (by omega)
  rw [show ((4 : Nat) : Int) = 4 from rfl, e8] at b8
  obtain ⟨L7, rfl⟩ := fixS_some e8
  obtain ⟨L6, rfl⟩ := fixS_some e7
  obtain ⟨L5, rfl⟩ := numS_some e6
  obtain ⟨L4, rfl⟩ := fixS_some e5
  obtain ⟨L3, rfl⟩ := numS_some e4
  obtain ⟨L2, rfl⟩ := numS_some e3
  obtain ⟨L1, rfl⟩ := fixS_some e2
  obtain ⟨L0, rfl⟩ := fixS_some e1
  refine ⟨L0, rfl, ?_⟩
  rw [enc_parts]
  have q1 := fixS_inv (n := 1) (by omega) (by omega) e1
  have q2 := fixS_inv (n := 1) (by omega) (by omega) e2
  have q3 := numS_inv e3
  have q4 := numS_inv e4
  have q5 := fixS_inv (n := 1) (by omega) (by omega) e5
  have q6 := numS_inv e6
  have q7 := fixS_inv (n := 8) (by omega) (by omega) e7
  have q8 := fixS_inv (n := 4) (by omega) (by omega) e8
  simp only [Int.toNat_natCast]
  rw [w64_wrap X7 (by simp only at b7; omega)]
  have hq : (BitVec.ofNat 32 X8).toNat = X8 := by rw [BitVec.toNat_ofNat]; simp only at b8; omega
  rw [hq, ← q8, ← q7, ← q6, ← q5, ← q4, ← q3, ← q2, ← q1]
theorem steps_inv : ∀ (n : Nat) {s : St} {fs : List Flt} {L' : List (BitVec 8)}, stepsS n s = (fs, some L') → ∃ L, s = some L ∧ L = fs.flatMap encF1 ++ L'
  | 0, s, fs, L', h => by
    cases h
    exact ⟨L', rfl, rfl⟩
  | n + 1, s, fs, L', h => by
    obtain ⟨gs, s2, h2⟩ : ∃ gs s2, stepsS n s = (gs, s2) := ⟨_, _, rfl⟩
    simp only [stepsS, h2, Prod.mk.injEq] at h
    obtain ⟨rfl, h⟩ := h
    obtain ⟨f, s3, h3⟩ : ∃ f s3, nextS s2 = (f, s3) := ⟨_, _, rfl⟩
    rw [h3] at h
    simp only at h
    subst h
    obtain ⟨L2, rfl, hL2⟩ := next_inv h3
    obtain ⟨L, hL, hLL⟩ := steps_inv n h2
    refine ⟨L, hL, ?_⟩
    rw [h3, hLL, hL2, List.flatMap_append, List.append_assoc]
    simp
theorem steps_enc (rest : List (BitVec 8)) : ∀ (n : Nat) (fs : List Flt), n ≤ fs.length → fs.all may = true → (∀ f ∈ fs, (Lit.int .i64 f.p).wf = true) → stepsS n (some (fs.flatMap encF1 ++ rest)) = (fs.take n, some ((fs.drop n).flatMap encF1 ++ rest))
  | 0, fs, hn, hm, hw => by simp [stepsS]
  | n + 1, fs, hn, hm, hw => by
    have ih := steps_enc rest n fs (by omega) hm hw
    have hlt : n < fs.length := by omega
    have hd : fs.drop n = fs[n] :: fs.drop (n + 1) := (List.getElem_cons_drop hlt).symm
    have hmm : fs[n] ∈ fs := List.getElem_mem hlt
    simp only [stepsS, ih]
    rw [hd, List.flatMap_cons, List.append_assoc, next_enc fs[n] (List.all_eq_true.1 hm _ hmm) (hw _ hmm)]
    simp only [Prod.mk.injEq, and_true]
    rw [List.take_succ_eq_append_getElem hlt]
/-- Decode of Encode gives the entries back. -/
theorem dec_enc (fs : List Flt) (h : chk fs = 0) (hw : ∀ f ∈ fs, (Lit.int .i64 f.p).wf = true) : decS (encL fs) = some fs := by
  obtain ⟨hm, hnd, hl⟩ := chk_ok h
  have e1 : numS (some (encL fs)) 256 = (fs.length, some (fs.flatMap encF1)) := numS_app fs.length 256 (by omega) (by omega) _
  have e2 := steps_enc [] fs.length fs (Nat.le_refl _) hm hw
  rw [List.append_nil, List.take_length, List.drop_length] at e2
  unfold decS
  rw [e1]
  simp only [e2]
  rw [if_pos ⟨rfl, h⟩]
/-- Encode of Decode gives the bytes back. -/
theorem enc_dec {b : List (BitVec 8)} {fs : List Flt} (h : decS b = some fs) : chk fs = 0 ∧ encL fs = b := by
  unfold decS at h
  split at h
  · rename_i h0
    obtain ⟨n, s1, e1⟩ : ∃ n s1, numS (some b) 256 = (n, s1) := ⟨_, _, rfl⟩
    rw [e1] at h h0
    simp only at h h0
    obtain ⟨gs, s2, e2⟩ : ∃ gs s2, stepsS n s1 = (gs, s2) := ⟨_, _, rfl⟩
    rw [e2] at h h0
    simp only [Option.some.injEq] at h h0
    obtain ⟨rfl, h1⟩ := h0
    subst h
    refine ⟨h1, ?_⟩
    obtain ⟨L, rfl, hL⟩ := steps_inv n e2
    have hb := numS_inv e1
    have hlen := stepsS_len n (some L)
    rw [e2] at hlen
    simp only at hlen
    unfold encL
    rw [hb, hL, hlen, List.append_nil]
  · cases h
end Go.Proofs.Ytbmbhcjocgbbpab.Fa
