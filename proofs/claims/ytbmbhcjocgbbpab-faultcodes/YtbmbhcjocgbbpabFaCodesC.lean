/-
  Encode, Decode, lists turned round and an entry's attempt, as one walk wants them.
-/
import Derived.Test.YtbmbhcjocgbbpabFaRDec
import Derived.Test.YtbmbhcjocgbbpabFaGiven
import Derived.Test.YtbmbhcjocgbbpabFaBack
import Derived.Test.YtbmbhcjocgbbpabFaSameF
import Derived.Test.YtbmbhcjocgbbpabFaSame
import Derived.Test.YtbmbhcjocgbbpabFaTurned
import Derived.Test.YtbmbhcjocgbbpabFaRoom
namespace Go.Proofs.Ytbmbhcjocgbbpab.Fa
open Go.ChangeShapes Go.WideShapes Go.ChangeAt Go.RowKit
open Go.Proofs.Ytbmbhcjocgbbpab.Base Go.Proofs.Ytbmbhcjocgbbpab.Nums Go.Proofs.Ytbmbhcjocgbbpab.Curs
set_option linter.unusedVariables false
/-- The bytes that Encode answers; the entries that Decode answers, the error. -/
def encR (fs : List Flt) : List (BitVec 8) := if chk fs = 0 then encL fs else []
def decR (bs : List (BitVec 8)) : List Flt := (decS bs).getD []
def decE (bs : List (BitVec 8)) : Int := if (decS bs).isSome then 0 else 160
theorem encR_len (fs : List Flt) : (encR fs).length ≤ 16393 := by
  unfold encR
  split
  · rename_i h; exact enc_bound h
  · simp
theorem decR_len (bs : List (BitVec 8)) : (decR bs).length ≤ 256 := by
  unfold decR
  cases h : decS bs with
  | none => simp
  | some fs => exact (chk_ok (enc_dec h).1).2.2
theorem encode_any (a : Option Addr) (n cap : Nat) (fs : List Flt) (w : World) (hr : RdL w a n fs) :
    Calls Try.prog 5 #[.slice a n cap] w fun e w' => (∃ v, e = .returned (.tuple #[v, .int .i64 (chk fs : Nat)]) ∧ Own w' w.heap.size v (encR fs)) ∧ Below w.heap.size w w' := by
  by_cases hk : chk fs = 0
  · refine (encode_ok a n cap fs w hr hk).mono ?_
    rintro e w' ⟨v, rfl, ho, hb⟩
    exact ⟨⟨v, by rw [hk]; rfl, by unfold encR; rw [if_pos hk]; exact ho⟩, hb⟩
  · refine (encode_no a n cap fs w hr hk).mono ?_
    rintro e w' ⟨rfl, hb⟩
    exact ⟨⟨_, rfl, by unfold encR; rw [if_neg hk]; exact own_none _ _⟩, hb⟩
theorem refEncode_any (a : Option Addr) (n cap : Nat) (fs : List Flt) (w : World) (hr : RdL w a n fs) :
    Calls Try.prog 7 #[.slice a n cap] w fun e w' => (∃ v, e = .returned (.tuple #[v, .int .i64 (chk fs : Nat)]) ∧ Own w' w.heap.size v (encR fs)) ∧ Below w.heap.size w w' := by
  by_cases hk : chk fs = 0
  · refine (refEncode_ok a n cap fs w hr hk).mono ?_
    rintro e w' ⟨v, rfl, ho, hb⟩
    exact ⟨⟨v, by rw [hk]; rfl, by unfold encR; rw [if_pos hk]; exact ho⟩, hb⟩
  · refine (refEncode_no a n cap fs w hr hk).mono ?_
    rintro e w' ⟨rfl, hb⟩
    exact ⟨⟨_, rfl, by unfold encR; rw [if_neg hk]; exact own_none _ _⟩, hb⟩
theorem dec_any {bs : List (BitVec 8)} {e : Ending} {w' : World} {base : Nat} (h : Dec (decS bs) e w' base) : ∃ v, e = .returned (.tuple #[v, .int .i64 (decE bs)]) ∧ OwnL w' base v (decR bs) := by
  unfold decE decR
  cases hd : decS bs with
  | none => rw [hd] at h; exact ⟨_, h, ownl_none _ _⟩
  | some fs => rw [hd] at h; exact h
theorem decode_r (a : Option Addr) (n c : Nat) (bs : List (BitVec 8)) (w : World) (hr : Rd w a n bs) (hn : n ≤ c) (hz : a = none → n = 0 ∧ c = 0) :
    Calls Try.prog 9 #[.slice a n c] w fun e w' => (∃ v, e = .returned (.tuple #[v, .int .i64 (decE bs)]) ∧ OwnL w' w.heap.size v (decR bs)) ∧ Below w.heap.size w w' :=
  (decode_any a n c bs w hr hn hz).mono fun e w' ⟨h1, h2⟩ => ⟨dec_any h1, h2⟩
theorem refDecode_r (a : Option Addr) (n c : Nat) (bs : List (BitVec 8)) (w : World) (hr : Rd w a n bs) (hn : n ≤ c) (hc : c ≤ 9223372036854775807) :
    Calls Try.prog 11 #[.slice a n c] w fun e w' => (∃ v, e = .returned (.tuple #[v, .int .i64 (decE bs)]) ∧ OwnL w' w.heap.size v (decR bs)) ∧ Below w.heap.size w w' :=
  (refDecode_any a n c bs w hr hn hc).mono fun e w' ⟨h1, h2⟩ => ⟨dec_any h1, h2⟩
theorem OwnL.shp {w : World} {base g n cap : Nat} {fs : List Flt} (h : OwnL w base (.slice (some ⟨g, 0, none⟩) n cap) fs) : Shp8 w g (cap * 8) := by
  rcases h.2 with ⟨h1, h2⟩ | ⟨g', cap', cur, h1, h2, h3, h4, h5, h6, h7⟩
  · cases h1
  · simp only [Value.slice.injEq, Option.some.injEq, Addr.mk.injEq] at h1
    obtain ⟨⟨rfl, _⟩, h8, rfl⟩ := h1
    exact ⟨cur, h3, h6⟩
/-- A list with marks behind it, turned round. -/
theorem back_own (base g : Nat) (fs ms : List Flt) (n N : Nat) (w : World) (ho : OwnL w base (.slice (some ⟨g, 0, none⟩) N N) (fs ++ ms)) (hn : fs.length = n) (hm : n + ms.length = N) (hl : N ≤ 2199023255552) :
    Calls Try.prog 16 #[.slice (some ⟨g, 0, none⟩) n N] w fun e w' => e = .returned (.slice (some ⟨g, 0, none⟩) n N) ∧ OwnL w' base (.slice (some ⟨g, 0, none⟩) N N) (fs.reverse ++ ms) ∧ w.grownBy w' (some g) := by
  obtain ⟨hfa, hb, _⟩ := own_fa ho
  refine (back_any g n N N _ w hfa ho.shp (by omega) hl).mono ?_
  rintro e w' ⟨rfl, h1, ⟨cur, h2, h3⟩, h4⟩
  refine ⟨rfl, ?_, h4⟩
  have h5 := fa_own h1 h2 h3 (Nat.le_refl _) (by unfold maxLen; omega) hb
  have h6 := seg_rvF fs ms
  rw [hn, hm] at h6
  rw [h6] at h5
  exact h5
/-- The first entry's attempt is another one. -/
theorem OwnL.setA {w : World} {base g N c : Nat} {f : Flt} {r : List Flt} (h : OwnL w base (.slice (some ⟨g, 0, none⟩) N c) (f :: r)) (x : Int) :
    OwnL (w.setCell ⟨g, 3, none⟩ (.int .i64 x)) base (.slice (some ⟨g, 0, none⟩) N c) (⟨f.k, f.j, f.t, x, f.m, f.r, f.p, f.q⟩ :: r) ∧ w.grownBy (w.setCell ⟨g, 3, none⟩ (.int .i64 x)) (some g) := by
  have hn := h.len.1
  subst hn
  have h1 := World.ownsRow.stored h 3 (.int .i64 x)
  refine ⟨?_, h1.2⟩
  have h2 := h1.1
  have e : (fvals (f :: r)).set 3 (.int .i64 x) = fvals (⟨f.k, f.j, f.t, x, f.m, f.r, f.p, f.q⟩ :: r) := by
    rw [fvals_cons, fvals_cons]
    rfl
  rw [e] at h2
  exact h2
theorem OwnL.c3 {w : World} {base g N c : Nat} {f : Flt} {r : List Flt} (h : OwnL w base (.slice (some ⟨g, 0, none⟩) N c) (f :: r)) : w.cell? ⟨g, 3, none⟩ = some (.int .i64 f.a) ∧ w.frozen? ⟨g, 3, none⟩ = false := by
  have hn := h.len.1
  obtain ⟨b, off, e, _, hc⟩ := h.rdl.2 (by rw [hn]; simp)
  cases e
  have h3 := (hc 0 (by rw [hn]; simp)).2.2.2.1
  exact ⟨h3, h.frozen 3⟩
theorem take_marks (fs ms : List Flt) (n : Nat) (h : fs.length = n) : (fs ++ ms).take n = fs := by rw [← h, List.take_left]
theorem take_marksB (fs ms : List (BitVec 8)) (n : Nat) (h : fs.length = n) : (fs ++ ms).take n = fs := by rw [← h, List.take_left]
end Go.Proofs.Ytbmbhcjocgbbpab.Fa
