/-
  A buffer or nil, the program's and the document's: what each method answers and where it writes.
-/
import Derived.Test.YtlbplicafcoifaaSoRadd
import Derived.Test.YtlbplicafcoifaaSoWhole
namespace Go.Proofs.Ytlbplicafcoifaa.So
open Go.ChangeShapes Go.WideShapes Go.ChangeAt Go.RowKit
open Go.Proofs.Ytlbplicafcoifaa.Base
set_option linter.unusedVariables false
/-- A pointer to a buffer, or nil; and the buffer's list. -/
structure Hb where
  b : Option Nat
  v : Value
def Hb.ptr (h : Hb) : Value := match h.b with
  | none => .pointer none
  | some b => .pointer (some ⟨b, 0, none⟩)
/-- The blocks that are its own. -/
def Hb.foot (h : Hb) (i : Nat) : Prop := h.b = some i ∨ h.v.ownBlock = some i
/-- Only blocks of this set have turned. -/
structure Turn (w w' : World) (S : Nat → Prop) : Prop where
  os : w'.os = w.os
  tape : w'.tape = w.tape
  output : w'.output = w.output
  size : w.heap.size ≤ w'.heap.size
  block : ∀ i, i < w.heap.size → ¬ S i → w'.heap[i]? = w.heap[i]?
theorem Turn.refl (w : World) (S : Nat → Prop) : Turn w w S := ⟨rfl, rfl, rfl, Nat.le_refl _, fun _ _ _ => rfl⟩
theorem Turn.of_below {w w' : World} (S : Nat → Prop) (h : Below w.heap.size w w') : Turn w w' S := ⟨h.os, h.tape, h.output, h.size, fun i hi _ => h.block i hi⟩
theorem Turn.of_kept {w w' : World} {h : Hb} {b : Nat} (hb : h.b = some b) (k : Kept2 w w' (some b) h.v.ownBlock) : Turn w w' h.foot :=
  ⟨k.os, k.tape, k.output, k.size, fun i hi q => k.block i hi (fun e => q (.inl (by rw [hb, e]))) (fun e => q (.inr e.symm))⟩
theorem Turn.of_kept1 {w w' : World} {h : Hb} {b : Nat} (hb : h.b = some b) (k : Kept2 w w' (some b) none) : Turn w w' h.foot :=
  ⟨k.os, k.tape, k.output, k.size, fun i hi q => k.block i hi (fun e => q (.inl (by rw [hb, e]))) (fun e => by cases e)⟩
theorem Turn.trans {w w1 w2 : World} {S S1 T : Nat → Prop} (h : Turn w w1 S) (k : Turn w1 w2 S1) (h1 : ∀ i, i < w.heap.size → S i → T i) (h2 : ∀ i, i < w.heap.size → S1 i → T i) : Turn w w2 T :=
  ⟨k.os.trans h.os, k.tape.trans h.tape, k.output.trans h.output, Nat.le_trans h.size k.size, fun i hi q => (k.block i (Nat.lt_of_lt_of_le hi h.size) (fun e => q (h2 i hi e))).trans (h.block i hi (fun e => q (h1 i hi e)))⟩
/-- The records are small enough to be counted. -/
structure Sm (rs : List Rec) (bud : Int) : Prop where
  fit : Fit rs
  bd : 0 ≤ bud ∧ bud ≤ 16777216
  sum : rs.length ≤ 1 ∨ sumC rs ≤ bud
theorem len_sumC (rs : List Rec) : 32 * (rs.length : Int) ≤ sumC rs := by
  induction rs with
  | nil => rw [sumC_nil]; simp
  | cons r P ih =>
    have h1 : sumC (r :: P) = costR r + sumC P := by unfold sumC; simp
    have h2 : 32 ≤ costR r := by unfold costR; omega
    rw [h1, List.length_cons]
    omega
theorem Sm.len {rs : List Rec} {bud : Int} (h : Sm rs bud) : rs.length ≤ 524288 := by
  have h1 := len_sumC rs
  rcases h.sum with h2 | h2
  · omega
  · have := h.bd.2; omega
theorem Sm.cost {rs : List Rec} {bud : Int} (h : Sm rs bud) : 0 ≤ sumC rs ∧ sumC rs ≤ 562949953421312 := by
  refine ⟨sumC_nonneg rs, ?_⟩
  rcases h.sum with h2 | h2
  · match rs, h2, h.fit with
    | [], _, _ => rw [sumC_nil]; omega
    | [x], _, hf =>
      have h3 := hf x (List.mem_singleton.2 rfl)
      have h4 : sumC [x] = costR x := by unfold sumC; simp
      rw [h4]
      unfold costR
      omega
  · have := h.bd.2; omega
theorem sm_nil {bud : Int} (h0 : 0 ≤ bud) (h1 : bud ≤ 16777216) : Sm [] bud := ⟨(fun r hr => by cases hr), ⟨h0, h1⟩, .inl (by simp)⟩
/-- What Add answers, and what is held behind it. -/
def code (nil : Bool) (rs : List Rec) (bud : Int) (r : Rec) : Int := if nil = true then 1 else if 0 < rs.length ∧ bud < sumC rs + costR r then 62 else 0
def aft (nil : Bool) (rs : List Rec) (bud : Int) (r : Rec) : List Rec := if nil = true then rs else if 0 < rs.length ∧ bud < sumC rs + costR r then rs else rs ++ [r]
theorem Sm.aft {nil : Bool} {rs : List Rec} {bud : Int} {r : Rec} (h : Sm rs bud) (hk : r.k.size ≤ 140737488355328) (hv : r.v.size ≤ 140737488355328) : Sm (aft nil rs bud r) bud := by
  unfold So.aft
  split
  · exact h
  · split
    · exact h
    · rename_i q
      refine ⟨fun x hx => ?_, h.bd, ?_⟩
      · rcases List.mem_append.1 hx with hx | hx
        · exact h.fit x hx
        · rw [List.mem_singleton.1 hx]; exact ⟨hk, hv⟩
      · rw [sumC_snoc, List.length_append, List.length_singleton]
        by_cases e : 0 < rs.length
        · exact .inr (by have : ¬ bud < sumC rs + costR r := fun e2 => q ⟨e, e2⟩; omega)
        · exact .inl (by omega)
/-- It holds these records: the program's. -/
def LH (w : World) (lo : Nat) (h : Hb) (nil : Bool) (rs : List Rec) (bud : Int) : Prop :=
  (nil = true ∧ h.b = none ∧ h.v = .slice none 0 0 ∧ rs = []) ∨ (nil = false ∧ ∃ b, h.b = some b ∧ lo ≤ b ∧ BF w b h.v (sumC rs) bud ∧ OwnR w (b + 1) h.v rs)
/-- The document's. -/
def RH (w : World) (lo : Nat) (h : Hb) (nil : Bool) (rs : List Rec) (bud : Int) : Prop :=
  (nil = true ∧ h.b = none ∧ h.v = .slice none 0 0 ∧ rs = []) ∨ (nil = false ∧ ∃ b, h.b = some b ∧ lo ≤ b ∧ QF w b h.v bud ∧ OwnR w (b + 1) h.v rs)
theorem LH.same {w w' : World} {lo : Nat} {h : Hb} {nil : Bool} {rs : List Rec} {bud : Int} (hh : LH w lo h nil rs bud) (e : ∀ i, h.foot i → w'.heap[i]? = w.heap[i]?) : LH w' lo h nil rs bud := by
  rcases hh with hh | ⟨h0, b, h1, h2, h3, h4⟩
  · exact .inl hh
  · exact .inr ⟨h0, b, h1, h2, h3.same (e b (.inl h1)), h4.same (fun i hi => e i (.inr hi))⟩
theorem RH.same {w w' : World} {lo : Nat} {h : Hb} {nil : Bool} {rs : List Rec} {bud : Int} (hh : RH w lo h nil rs bud) (e : ∀ i, h.foot i → w'.heap[i]? = w.heap[i]?) : RH w' lo h nil rs bud := by
  rcases hh with hh | ⟨h0, b, h1, h2, h3, h4⟩
  · exact .inl hh
  · exact .inr ⟨h0, b, h1, h2, h3.same (e b (.inl h1)), h4.same (fun i hi => e i (.inr hi))⟩
theorem LH.lt {w : World} {lo : Nat} {h : Hb} {nil : Bool} {rs : List Rec} {bud : Int} (hh : LH w lo h nil rs bud) (i : Nat) (hi : h.foot i) : lo ≤ i ∧ i < w.heap.size := by
  rcases hh with ⟨_, h1, h2, _⟩ | ⟨h0, b, h1, h2, h3, h4⟩
  · rcases hi with e | e
    · rw [h1] at e; cases e
    · rw [h2] at e; cases e
  · rcases hi with e | e
    · rw [h1] at e; obtain rfl := Option.some.inj e; exact ⟨h2, h3.lt⟩
    · have := h4.blk i e; omega
theorem RH.lt {w : World} {lo : Nat} {h : Hb} {nil : Bool} {rs : List Rec} {bud : Int} (hh : RH w lo h nil rs bud) (i : Nat) (hi : h.foot i) : lo ≤ i ∧ i < w.heap.size := by
  rcases hh with ⟨_, h1, h2, _⟩ | ⟨h0, b, h1, h2, h3, h4⟩
  · rcases hi with e | e
    · rw [h1] at e; cases e
    · rw [h2] at e; cases e
  · rcases hi with e | e
    · rw [h1] at e; obtain rfl := Option.some.inj e; exact ⟨h2, h3.lt⟩
    · have := h4.blk i e; omega
theorem ptr_nil {h : Hb} (e : h.b = none) : h.ptr = .pointer none := by unfold Hb.ptr; rw [e]
theorem ptr_some {h : Hb} {b : Nat} (e : h.b = some b) : h.ptr = .pointer (some ⟨b, 0, none⟩) := by unfold Hb.ptr; rw [e]
theorem l_len (w : World) (lo : Nat) (h : Hb) (nil : Bool) (rs : List Rec) (bud : Int) (hh : LH w lo h nil rs bud) :
    Calls Try.prog 12 #[h.ptr] w fun e w' => e = .returned (.int .i64 (rs.length : Int)) ∧ w' = w := by
  rcases hh with ⟨_, h1, h2, rfl⟩ | ⟨h0, b, h1, h2, h3, h4⟩
  · rw [ptr_nil h1]; exact len_nil w
  · rw [ptr_some h1]
    obtain ⟨a, c, hv, hac⟩ := own_shape h4
    rw [hv] at h3
    exact len_any b a rs.length c _ _ w h3
theorem r_len (w : World) (lo : Nat) (h : Hb) (nil : Bool) (rs : List Rec) (bud : Int) (hh : RH w lo h nil rs bud) :
    Calls Try.prog 13 #[h.ptr] w fun e w' => e = .returned (.int .i64 (rs.length : Int)) ∧ w' = w := by
  rcases hh with ⟨_, h1, h2, rfl⟩ | ⟨h0, b, h1, h2, h3, h4⟩
  · rw [ptr_nil h1]; exact rlen_nil w
  · rw [ptr_some h1]
    obtain ⟨a, c, hv, hac⟩ := own_shape h4
    rw [hv] at h3
    exact rlen_any b a rs.length c _ w h3
theorem l_used (w : World) (lo : Nat) (h : Hb) (nil : Bool) (rs : List Rec) (bud : Int) (hh : LH w lo h nil rs bud) :
    Calls Try.prog 14 #[h.ptr] w fun e w' => e = .returned (.int .i64 (sumC rs)) ∧ w' = w := by
  rcases hh with ⟨_, h1, h2, rfl⟩ | ⟨h0, b, h1, h2, h3, h4⟩
  · rw [ptr_nil h1, sumC_nil]; exact used_nil w
  · rw [ptr_some h1]; exact used_any b _ _ _ w h3
theorem r_used (w : World) (lo : Nat) (h : Hb) (nil : Bool) (rs : List Rec) (bud : Int) (hh : RH w lo h nil rs bud) (hs : Sm rs bud) :
    Calls Try.prog 15 #[h.ptr] w fun e w' => e = .returned (.int .i64 (sumC rs)) ∧ Below w.heap.size w w' := by
  rcases hh with ⟨_, h1, h2, rfl⟩ | ⟨h0, b, h1, h2, h3, h4⟩
  · rw [ptr_nil h1, sumC_nil]
    refine (rused_nil w).mono ?_
    rintro e w' ⟨rfl, rfl⟩
    exact ⟨rfl, Below.refl _ _⟩
  · rw [ptr_some h1]; exact rused_any b _ _ rs bud w h3 h4 hs.fit (by have := hs.cost.2; omega)
theorem l_add (w : World) (lo : Nat) (h : Hb) (nil : Bool) (rs : List Rec) (bud : Int) (r : Rec) (hh : LH w lo h nil rs bud) (hs : Sm rs bud) (hk : r.k.size ≤ 140737488355328) (hv : r.v.size ≤ 140737488355328) :
    Calls Try.prog 6 #[h.ptr, r.val] w fun e w' => e = .returned (.int .i64 (code nil rs bud r)) ∧ ∃ h' : Hb, h'.b = h.b ∧ LH w' lo h' nil (aft nil rs bud r) bud ∧ Turn w w' h.foot ∧ ∀ i, h'.foot i → h.foot i ∨ w.heap.size ≤ i := by
  rcases hh with ⟨h0, h1, h2, rfl⟩ | ⟨h0, b, h1, h2, h3, h4⟩
  · rw [ptr_nil h1]
    refine (add_nil r w).mono ?_
    rintro e w' ⟨rfl, hb⟩
    subst h0
    exact ⟨rfl, h, rfl, .inl ⟨rfl, h1, h2, rfl⟩, Turn.of_below _ hb, fun i hi => .inl hi⟩
  · rw [ptr_some h1]
    subst h0
    have hl := hs.len
    have hc := hs.cost
    refine (add_any b (b + 1) h.v rs r (sumC rs) bud w h3 h4 (by omega) h3.lt hk hv (by omega) hc.1 (by omega)).mono ?_
    rintro e w' (⟨q1, q2, rfl, q3⟩ | ⟨q1, rfl, g, c, q2, q3, q4, q5⟩)
    · have e1 : code false rs bud r = 62 := by unfold code; rw [if_neg (by simp), if_pos ⟨q1, q2⟩]
      have e2 : aft false rs bud r = rs := by unfold aft; rw [if_neg (by simp), if_pos ⟨q1, q2⟩]
      rw [e1, e2]
      exact ⟨rfl, h, rfl, .inr ⟨rfl, b, h1, h2, h3.below q3, h4.below q3⟩, Turn.of_below _ q3, fun i hi => .inl hi⟩
    · have e0 : ¬ (0 < rs.length ∧ bud < sumC rs + costR r) := by omega
      have e1 : code false rs bud r = 0 := by unfold code; rw [if_neg (by simp), if_neg e0]
      have e2 : aft false rs bud r = rs ++ [r] := by unfold aft; rw [if_neg (by simp), if_neg e0]
      rw [e1, e2]
      refine ⟨rfl, ⟨some b, .slice (some ⟨g, 0, none⟩) (rs.length + 1) c⟩, h1.symm, .inr ⟨rfl, b, rfl, h2, (by rw [sumC_snoc]; exact q2), q3⟩, Turn.of_kept h1 q4, fun i hi => ?_⟩
      rcases hi with e | e
      · exact .inl (.inl (by rw [h1]; exact e))
      · have e3 : g = i := Option.some.inj e
        subst e3
        rcases q5 with q5 | q5
        · exact .inl (.inr q5)
        · exact .inr q5
theorem r_add (w : World) (lo : Nat) (h : Hb) (nil : Bool) (rs : List Rec) (bud : Int) (r : Rec) (hh : RH w lo h nil rs bud) (hs : Sm rs bud) (hk : r.k.size ≤ 140737488355328) (hv : r.v.size ≤ 140737488355328) :
    Calls Try.prog 7 #[h.ptr, r.val] w fun e w' => e = .returned (.int .i64 (code nil rs bud r)) ∧ ∃ h' : Hb, h'.b = h.b ∧ RH w' lo h' nil (aft nil rs bud r) bud ∧ Turn w w' h.foot ∧ ∀ i, h'.foot i → h.foot i ∨ w.heap.size ≤ i := by
  rcases hh with ⟨h0, h1, h2, rfl⟩ | ⟨h0, b, h1, h2, h3, h4⟩
  · rw [ptr_nil h1]
    refine (radd_nil r w).mono ?_
    rintro e w' ⟨rfl, hb⟩
    subst h0
    exact ⟨rfl, h, rfl, .inl ⟨rfl, h1, h2, rfl⟩, Turn.of_below _ hb, fun i hi => .inl hi⟩
  · rw [ptr_some h1]
    subst h0
    have hl := hs.len
    have hc := hs.cost
    refine (radd_any b (b + 1) h.v rs r bud w h3 h4 (by omega) h3.lt hk hv (by omega) hs.fit (by omega)).mono ?_
    rintro e w' (⟨q1, q2, rfl, q3⟩ | ⟨q1, rfl, g, c, q2, q3, q4, q5⟩)
    · have e1 : code false rs bud r = 62 := by unfold code; rw [if_neg (by simp), if_pos ⟨q1, q2⟩]
      have e2 : aft false rs bud r = rs := by unfold aft; rw [if_neg (by simp), if_pos ⟨q1, q2⟩]
      rw [e1, e2]
      exact ⟨rfl, h, rfl, .inr ⟨rfl, b, h1, h2, h3.below q3, h4.below q3⟩, Turn.of_below _ q3, fun i hi => .inl hi⟩
    · have e0 : ¬ (0 < rs.length ∧ bud < sumC rs + costR r) := by omega
      have e1 : code false rs bud r = 0 := by unfold code; rw [if_neg (by simp), if_neg e0]
      have e2 : aft false rs bud r = rs ++ [r] := by unfold aft; rw [if_neg (by simp), if_neg e0]
      rw [e1, e2]
      refine ⟨rfl, ⟨some b, .slice (some ⟨g, 0, none⟩) (rs.length + 1) c⟩, h1.symm, .inr ⟨rfl, b, rfl, h2, q2, q3⟩, Turn.of_kept h1 q4, fun i hi => ?_⟩
      rcases hi with e | e
      · exact .inl (.inl (by rw [h1]; exact e))
      · have e3 : g = i := Option.some.inj e
        subst e3
        rcases q5 with q5 | q5
        · exact .inl (.inr q5)
        · exact .inr q5
theorem l_take (w : World) (lo : Nat) (h : Hb) (nil : Bool) (rs : List Rec) (bud : Int) (hh : LH w lo h nil rs bud) (hs : Sm rs bud) :
    Calls Try.prog 8 #[h.ptr] w fun e w' => ∃ v', e = .returned v' ∧ OwnR w' lo v' (isort rs) ∧ LH w' lo ⟨h.b, .slice none 0 0⟩ nil [] bud ∧ Turn w w' h.foot ∧ (∀ i, v'.ownBlock = some i → (h.foot i ∨ w.heap.size ≤ i) ∧ h.b ≠ some i) := by
  rcases hh with ⟨h0, h1, h2, rfl⟩ | ⟨h0, b, h1, h2, h3, h4⟩
  · rw [ptr_nil h1]
    refine (take_nil w).mono ?_
    rintro e w' ⟨rfl, rfl⟩
    exact ⟨_, rfl, own_nil _ _, .inl ⟨h0, h1, rfl, rfl⟩, Turn.refl _ _, fun i e => by cases e⟩
  · rw [ptr_some h1]
    have hl := hs.len
    refine (take_at b (b + 1) h.v rs (sumC rs) bud w h3 h4 (by omega) h3.lt (by omega) hs.fit.fine).mono ?_
    rintro e w' ⟨v', rfl, q1, q2, q3, q4⟩
    refine ⟨v', rfl, q1.base (by omega), .inr ⟨h0, b, h1, h2, (by rw [sumC_nil]; exact q2), own_nil _ _⟩, Turn.of_kept h1 q3, fun i e => ⟨?_, fun e2 => ?_⟩⟩
    · rcases q4 i e with q | q
      · exact .inl (.inr q)
      · exact .inr q
    · rw [h1] at e2
      have e3 : b = i := Option.some.inj e2
      have := (q1.blk i e).1
      omega
theorem r_take (w : World) (lo : Nat) (h : Hb) (nil : Bool) (rs : List Rec) (bud : Int) (hh : RH w lo h nil rs bud) (hs : Sm rs bud) :
    Calls Try.prog 10 #[h.ptr] w fun e w' => ∃ v', e = .returned v' ∧ OwnR w' lo v' (isort rs) ∧ RH w' lo ⟨h.b, .slice none 0 0⟩ nil [] bud ∧ Turn w w' h.foot := by
  rcases hh with ⟨h0, h1, h2, rfl⟩ | ⟨h0, b, h1, h2, h3, h4⟩
  · rw [ptr_nil h1]
    refine (rtake_nil w).mono ?_
    rintro e w' ⟨rfl, rfl⟩
    exact ⟨_, rfl, own_nil _ _, .inl ⟨h0, h1, rfl, rfl⟩, Turn.refl _ _⟩
  · rw [ptr_some h1]
    have hl := hs.len
    refine (rtake_any b (b + 1) h.v rs bud w h3 h4 (by omega) h3.lt (by omega)).mono ?_
    rintro e w' ⟨v', rfl, q1, q2, q3⟩
    exact ⟨v', rfl, q1.base (by omega), .inr ⟨h0, b, h1, h2, q2, own_nil _ _⟩, Turn.of_kept1 h1 q3⟩
/-- A new one: nil and an error, or an empty one. -/
def bad (bud : Int) : Bool := decide (bud < 256 ∨ 16777216 < bud)
def nb (bud : Int) : Int := if bad bud = true then 0 else bud
def bcode (bud : Int) : Int := if bad bud = true then 3 else 0
theorem sm_new (bud : Int) : Sm [] (nb bud) := by
  unfold nb bad
  split
  · exact sm_nil (by omega) (by omega)
  · rename_i h
    have h2 : ¬ (bud < 256 ∨ 16777216 < bud) := by simpa using h
    exact sm_nil (by omega) (by omega)
theorem l_new (w : World) (lo : Nat) (bud : Int) (hlo : lo ≤ w.heap.size) :
    Calls Try.prog 4 #[.int .i64 bud] w fun e w' => ∃ h : Hb, e = .returned (.tuple #[h.ptr, .int .i64 (bcode bud)]) ∧ LH w' lo h (bad bud) [] (nb bud) ∧ Below w.heap.size w w' ∧ (∀ i, h.foot i → w.heap.size ≤ i) := by
  by_cases hb : bud < 256 ∨ 16777216 < bud
  · have e1 : bad bud = true := by unfold bad; simpa using hb
    have e2 : bcode bud = 3 := by unfold bcode; rw [if_pos e1]
    have e3 : nb bud = 0 := by unfold nb; rw [if_pos e1]
    rw [e1, e2, e3]
    refine (new_bad bud w hb).mono ?_
    rintro e w' ⟨rfl, rfl⟩
    exact ⟨⟨none, .slice none 0 0⟩, rfl, .inl ⟨rfl, rfl, rfl, rfl⟩, Below.refl _ _, fun i hi => by rcases hi with e | e <;> cases e⟩
  · have e1 : bad bud = false := by unfold bad; simpa using hb
    have e2 : bcode bud = 0 := by unfold bcode; rw [if_neg (by rw [e1]; simp)]
    have e3 : nb bud = bud := by unfold nb; rw [if_neg (by rw [e1]; simp)]
    rw [e1, e2, e3]
    refine (new_any bud w (by omega) (by omega)).mono ?_
    rintro e w' ⟨b, rfl, q1, q2, q3⟩
    exact ⟨⟨some b, .slice none 0 0⟩, rfl, .inr ⟨rfl, b, rfl, by omega, (by rw [sumC_nil]; exact q1), own_nil _ _⟩, q3, fun i hi => by
      rcases hi with e | e
      · have := Option.some.inj e; omega
      · cases e⟩
theorem r_new (w : World) (lo : Nat) (bud : Int) (hlo : lo ≤ w.heap.size) :
    Calls Try.prog 5 #[.int .i64 bud] w fun e w' => ∃ h : Hb, e = .returned (.tuple #[h.ptr, .int .i64 (bcode bud)]) ∧ RH w' lo h (bad bud) [] (nb bud) ∧ Below w.heap.size w w' ∧ (∀ i, h.foot i → w.heap.size ≤ i) := by
  by_cases hb : bud < 256 ∨ 16777216 < bud
  · have e1 : bad bud = true := by unfold bad; simpa using hb
    have e2 : bcode bud = 3 := by unfold bcode; rw [if_pos e1]
    have e3 : nb bud = 0 := by unfold nb; rw [if_pos e1]
    rw [e1, e2, e3]
    refine (rnew_bad bud w hb).mono ?_
    rintro e w' ⟨rfl, rfl⟩
    exact ⟨⟨none, .slice none 0 0⟩, rfl, .inl ⟨rfl, rfl, rfl, rfl⟩, Below.refl _ _, fun i hi => by rcases hi with e | e <;> cases e⟩
  · have e1 : bad bud = false := by unfold bad; simpa using hb
    have e2 : bcode bud = 0 := by unfold bcode; rw [if_neg (by rw [e1]; simp)]
    have e3 : nb bud = bud := by unfold nb; rw [if_neg (by rw [e1]; simp)]
    rw [e1, e2, e3]
    refine (rnew_any bud w (by omega) (by omega)).mono ?_
    rintro e w' ⟨b, rfl, q1, q2, q3⟩
    exact ⟨⟨some b, .slice none 0 0⟩, rfl, .inr ⟨rfl, b, rfl, by omega, q1, own_nil _ _⟩, q3, fun i hi => by
      rcases hi with e | e
      · have := Option.some.inj e; omega
      · cases e⟩
end Go.Proofs.Ytlbplicafcoifaa.So
