/-
  Bytes that are read leniently.
-/
import Derived.Test.YtbmbhcjocgbbpabFaDecM
namespace Go.Proofs.Ytbmbhcjocgbbpab.Fa
open Go.ChangeShapes Go.WideShapes Go.ChangeAt Go.RowKit
open Go.Proofs.Ytbmbhcjocgbbpab.Base Go.Proofs.Ytbmbhcjocgbbpab.Nums Go.Proofs.Ytbmbhcjocgbbpab.Curs
set_option linter.unusedVariables false
/-- A number is read leniently. -/
def numV (L : List (BitVec 8)) : Nat × List (BitVec 8) := if L.length = 0 then (0, []) else if (get L).2.2 = 0 then ((get L).1, L.drop (get L).2.1) else (0, [])
/-- A word is read leniently. -/
def wordV (L : List (BitVec 8)) (n : Nat) : Nat × List (BitVec 8) := (wordFrom 0 (L.take n), L.drop n)
/-- An entry is read leniently. -/
def nextV (L : List (BitVec 8)) : Flt × List (BitVec 8) :=
  let s1 := wordV L 1
  let s2 := wordV s1.2 1
  let s3 := numV s2.2
  let s4 := numV s3.2
  let s5 := wordV s4.2 1
  let s6 := numV s5.2
  let s7 := wordV s6.2 8
  let s8 := wordV s7.2 4
  (⟨(s1.1 : Int), (s2.1 : Int), (s3.1 : Int), (s4.1 : Int), (s5.1 : Int), (s6.1 : Int), wrap64 (s7.1 : Int), BitVec.ofNat 32 s8.1⟩, s8.2)
def stepsV : Nat → List (BitVec 8) → List Flt × List (BitVec 8)
  | 0, L => ([], L)
  | n + 1, L => ((stepsV n L).1 ++ [(nextV (stepsV n L).2).1], (nextV (stepsV n L).2).2)
theorem stepsV_len : ∀ n L, (stepsV n L).1.length = n
  | 0, L => rfl
  | n + 1, L => by
    show ((stepsV n L).1 ++ [_]).length = _
    rw [List.length_append, stepsV_len n L]; rfl
/-- The entries that are read, and whether they are what stands there. -/
def readV (b : List (BitVec 8)) : List Flt := (stepsV (min (numV b).1 257) (numV b).2).1
theorem wrap64_wf (x : Int) : (Lit.int .i64 (wrap64 x)).wf = true := WalkArith.wf_i64 (by unfold wrap64; omega)
theorem stepsV_wf : ∀ (n : Nat) (L : List (BitVec 8)), ∀ f ∈ (stepsV n L).1, (Lit.int .i64 f.p).wf = true
  | 0, L, f, hf => by cases hf
  | n + 1, L, f, hf => by
    rcases List.mem_append.1 hf with h | h
    · exact stepsV_wf n L f h
    · rw [List.mem_singleton] at h
      subst h
      exact wrap64_wf _
theorem stepsS_wf : ∀ (n : Nat) (s : St), ∀ f ∈ (stepsS n s).1, (Lit.int .i64 f.p).wf = true
  | 0, s, f, hf => by cases hf
  | n + 1, s, f, hf => by
    rcases List.mem_append.1 hf with h | h
    · exact stepsS_wf n s f h
    · rw [List.mem_singleton] at h
      subst h
      exact wrap64_wf _
theorem decS_wf {b : List (BitVec 8)} {fs : List Flt} (h : decS b = some fs) : ∀ f ∈ fs, (Lit.int .i64 f.p).wf = true := by
  unfold decS at h
  split at h
  · cases h
    exact stepsS_wf _ _
  · cases h
theorem wordV_app (v n : Nat) (h8 : n ≤ 8) (rest : List (BitVec 8)) : wordV (fixed v n ++ rest) n = (v % 256 ^ n, rest) := by
  have hl : (fixed v n).length = n := length_fixed v n
  unfold wordV
  rw [List.take_left' hl, List.drop_left' hl, fixed_word]
theorem numV_app (u : Nat) (hu : u < 9223372036854775808) (rest : List (BitVec 8)) : numV (put u ++ rest) = (u, rest) := by
  have h1 := (put_nine u hu).1
  unfold numV
  rw [if_neg (by rw [List.length_append]; omega), get_put u rest hu]
  simp only
  rw [if_pos trivial, List.drop_left]
theorem nextV_enc (f : Flt) (h : may f = true) (hw : (Lit.int .i64 f.p).wf = true) (rest : List (BitVec 8)) : nextV (encF1 f ++ rest) = (f, rest) := by
  obtain ⟨h1, h2, h3, h4, h5, h6⟩ := may_nums h
  obtain ⟨p1, p2⟩ := wf_bounds hw
  obtain ⟨k, j, t, a, m, r, p, q⟩ := f
  simp only at h1 h2 h3 h4 h5 h6 p1 p2
  have e1 : ∀ R, wordV (fixed k.toNat 1 ++ R) 1 = (k.toNat % 256 ^ 1, R) := fun R => wordV_app k.toNat 1 (by omega) R
  have e2 : ∀ R, wordV (fixed j.toNat 1 ++ R) 1 = (j.toNat % 256 ^ 1, R) := fun R => wordV_app j.toNat 1 (by omega) R
  have e3 : ∀ R, numV (put t.toNat ++ R) = (t.toNat, R) := fun R => numV_app t.toNat (by omega) R
  have e4 : ∀ R, numV (put a.toNat ++ R) = (a.toNat, R) := fun R => numV_app a.toNat (by omega) R
  have e5 : ∀ R, wordV (fixed m.toNat 1 ++ R) 1 = (m.toNat % 256 ^ 1, R) := fun R => wordV_app m.toNat 1 (by omega) R
  have e6 : ∀ R, numV (put r.toNat ++ R) = (r.toNat, R) := fun R => numV_app r.toNat (by omega) R
  have e7 : ∀ R, wordV (fixed (w64 p) 8 ++ R) 8 = (w64 p % 256 ^ 8, R) := fun R => wordV_app (w64 p) 8 (by omega) R
  have e8 : ∀ R, wordV (fixed q.toNat 4 ++ R) 4 = (q.toNat % 256 ^ 4, R) := fun R => wordV_app q.toNat 4 (by omega) R
  rw [enc_parts]
  unfold nextV
  simp only [e1, e2, e3, e4, e5, e6, e7, e8]
  refine congrArg (fun g => (g, rest)) ?_
  rw [wrap_w64 p p1 p2]
  have hq : BitVec.ofNat 32 (q.toNat % 256 ^ 4) = q := by
    apply BitVec.eq_of_toNat_eq
    rw [BitVec.toNat_ofNat]
    have := q.isLt
    omega
  rw [hq]
  simp only [Flt.mk.injEq, and_true]
  omega
theorem stepsV_enc (rest : List (BitVec 8)) : ∀ (n : Nat) (fs : List Flt), n ≤ fs.length → fs.all may = true → (∀ f ∈ fs, (Lit.int .i64 f.p).wf = true) → stepsV n (fs.flatMap encF1 ++ rest) = (fs.take n, (fs.drop n).flatMap encF1 ++ rest)
  | 0, fs, hn, hm, hw => by simp [stepsV]
  | n + 1, fs, hn, hm, hw => by
    have ih := stepsV_enc rest n fs (by omega) hm hw
    have hlt : n < fs.length := by omega
    have hd : fs.drop n = fs[n] :: fs.drop (n + 1) := (List.getElem_cons_drop hlt).symm
    have hmm : fs[n] ∈ fs := List.getElem_mem hlt
    simp only [stepsV, ih]
    rw [hd, List.flatMap_cons, List.append_assoc, nextV_enc fs[n] (List.all_eq_true.1 hm _ hmm) (hw _ hmm)]
    simp only [Prod.mk.injEq, and_true]
    rw [List.take_succ_eq_append_getElem hlt]
theorem readV_enc (fs : List Flt) (h : chk fs = 0) (hw : ∀ f ∈ fs, (Lit.int .i64 f.p).wf = true) : readV (encL fs) = fs := by
  obtain ⟨hm, hnd, hl⟩ := chk_ok h
  have e1 : numV (encL fs) = (fs.length, fs.flatMap encF1) := numV_app fs.length (by omega) _
  have e2 := stepsV_enc [] fs.length fs (Nat.le_refl _) hm hw
  rw [List.append_nil, List.take_length, List.drop_length] at e2
  unfold readV
  rw [e1, show min fs.length 257 = fs.length by omega]
  simp only [e2]
/-- What is read leniently, if it is what stands there, is what is read strictly; else nothing is. -/
theorem decS_readV (b : List (BitVec 8)) : decS b = if chk (readV b) = 0 ∧ encL (readV b) = b then some (readV b) else none := by
  cases hd : decS b with
  | some fs =>
    obtain ⟨h1, h2⟩ := enc_dec hd
    have h3 := readV_enc fs h1 (decS_wf hd)
    rw [h2] at h3
    rw [h3, if_pos ⟨h1, h2⟩]
  | none =>
    by_cases h : chk (readV b) = 0 ∧ encL (readV b) = b
    · have h1 := dec_enc (readV b) h.1 (stepsV_wf _ _)
      rw [h.2, hd] at h1
      cases h1
    · rw [if_neg h]
end Go.Proofs.Ytbmbhcjocgbbpab.Fa
