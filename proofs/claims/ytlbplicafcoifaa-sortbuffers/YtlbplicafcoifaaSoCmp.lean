/-
  Two records compared, and what a record costs: the program and the document.
-/
import Derived.Test.YtlbplicafcoifaaNumsOrd
import Derived.WalkSmall
import Derived.Laws.Cover1
import Derived.Laws.Strings
namespace Go.Proofs.Ytlbplicafcoifaa.So
open Go.ChangeShapes Go.WideShapes Go.ChangeAt Go.RowKit
open Go.Proofs.Ytlbplicafcoifaa.Base Go.Proofs.Ytlbplicafcoifaa.Nums
set_option linter.unusedVariables false
/-- A record: partition, key, value. -/
structure Rec where
  p : Int
  k : ByteArray
  v : ByteArray
/-- As a value. -/
def Rec.val (r : Rec) : Value := .agg #[.int .i64 r.p, .string r.k, .string r.v]
/-- By partition, then by key. -/
def cmpR (a b : Rec) : Int := if a.p = b.p then order (txt a.k) (txt b.k) else sgn a.p b.p
theorem lt_row {w : World} {g : Nat} {o : Obj} (h : w.heap[g]? = some o) : g < w.heap.size := by
  by_cases hg : g < w.heap.size
  · exact hg
  · rw [Array.getElem?_eq_none (by omega)] at h; cases h
theorem less_order : ∀ a b : List UInt8, Op.bytesLess a b = decide (order a b < 0)
  | [], [] => rfl
  | [], _ :: _ => rfl
  | _ :: _, [] => rfl
  | x :: xs, y :: ys => by
    unfold Op.bytesLess order
    rw [less_order xs ys]
    by_cases h : x = y
    · subst h
      simp
    · have hb : (x == y) = false := by simpa using h
      have hn := u8_ne h
      rw [if_neg h, hb]
      by_cases hl : x.toNat < y.toNat
      · have : x < y := UInt8.lt_iff_toNat_lt.2 hl
        simp [hl, this]
      · have : ¬ x < y := fun q => hl (UInt8.lt_iff_toNat_lt.1 q)
        simp [hl, this]
theorem less_txt (a b : ByteArray) : Op.bytesLess a.toList b.toList = decide (order (txt a) (txt b) < 0) := by
  rw [Go.ByteArray.toList_eq, Go.ByteArray.toList_eq]; exact less_order _ _
theorem same_txt (a b : ByteArray) : (a.toList == b.toList) = decide (order (txt a) (txt b) = 0) := by
  rw [Go.ByteArray.toList_eq, Go.ByteArray.toList_eq]
  by_cases h : a.data.toList = b.data.toList
  · have : order (txt a) (txt b) = 0 := (order_zero _ _).2 h
    rw [h]; simp [this]
  · have : ¬ order (txt a) (txt b) = 0 := fun e => h ((order_zero _ _).1 e)
    rw [show decide (order (txt a) (txt b) = 0) = false by simpa using this]
    exact beq_eq_false_iff_ne.2 h
set_option maxHeartbeats 1000000 in
theorem cmp_any (a b : Rec) (w : World) (ha : a.k.size ≤ 9223372036854775807) (hb : b.k.size ≤ 9223372036854775807) :
    Calls Try.prog 22 #[a.val, b.val] w fun e w' => e = .returned (.int .i64 (cmpR a b)) ∧ Below w.heap.size w w' := by
  obtain ⟨ap, ak, av⟩ := a
  obtain ⟨bp, bk, bv⟩ := b
  unfold Rec.val cmpR
  simp only at ha hb ⊢
  have HA := hide ((((Below.refl w.heap.size w).alloc (Nat.le_refl _) (.cells #[.int .i64 ap, .string ak, .string av] 34)).alloc (by simp) (.cells #[.int .i64 bp, .string bk, .string bv] 34)))
  by_cases h : ap = bp
  · subst h
    rw [if_pos rfl]
    have hs : sgn ap ap = 0 := by unfold sgn; rw [if_neg (by omega), if_neg (by omega)]
    go_enter Try.func22, Try.ntmps22
    go_wp2_with (first
      | (go_at_call 26; refine (cmpI_any _ _ _).mono ?_; rintro e w1 ⟨rfl, rfl⟩; rw [hs])
      | (go_at_call 27; refine (compare_any _ _ _ ha hb).mono ?_; rintro e w2 ⟨rfl, hb2⟩))
    go_ret
    exact ⟨rfl, below_trans HA.out hb2⟩
  · rw [if_neg h]
    obtain ⟨z, hz, hz0⟩ : ∃ z, sgn ap bp = z ∧ ¬ z = 0 := ⟨_, rfl, by unfold sgn; split <;> (try split) <;> omega⟩
    have hzb : (z != 0) = true := by simpa using hz0
    have HZ := hide hz
    clear hz
    go_enter Try.func22, Try.ntmps22
    go_wp2_with (go_at_call 26; refine (cmpI_any _ _ _).mono ?_; rintro e w1 ⟨rfl, rfl⟩; rw [HZ.out])
    go_ret
    exact ⟨ret_int HZ.out.symm, HA.out⟩
set_option maxHeartbeats 1000000 in
theorem refCmp_any (a b : Rec) (w : World) :
    Calls Try.prog 28 #[a.val, b.val] w fun e w' => e = .returned (.int .i64 (cmpR a b)) ∧ Below w.heap.size w w' := by
  obtain ⟨ap, ak, av⟩ := a
  obtain ⟨bp, bk, bv⟩ := b
  unfold Rec.val cmpR
  simp only
  have HA := hide ((((Below.refl w.heap.size w).alloc (Nat.le_refl _) (.cells #[.int .i64 ap, .string ak, .string av] 34)).alloc (by simp) (.cells #[.int .i64 bp, .string bk, .string bv] 34)))
  by_cases h : ap = bp
  · subst h
    rw [if_pos rfl]
    rcases order_range (txt ak) (txt bk) with ho | ho | ho
    · have h1 : Op.bytesLess ak.toList bk.toList = true := by rw [less_txt, ho]; rfl
      have HO := hide ho
      clear ho
      go_enter Try.func28, Try.ntmps28
      go_wp2_with fail
      go_ret
      exact ⟨ret_int HO.out.symm, HA.out⟩
    · have h1 : Op.bytesLess ak.toList bk.toList = false := by rw [less_txt, ho]; rfl
      have h2 : (ak.toList == bk.toList) = true := by rw [same_txt, ho]; rfl
      have HO := hide ho
      clear ho
      go_enter Try.func28, Try.ntmps28
      go_wp2_with fail
      go_ret
      exact ⟨ret_int HO.out.symm, HA.out⟩
    · have h1 : Op.bytesLess ak.toList bk.toList = false := by rw [less_txt, ho]; rfl
      have h2 : (ak.toList == bk.toList) = false := by rw [same_txt, ho]; rfl
      have HO := hide ho
      clear ho
      go_enter Try.func28, Try.ntmps28
      go_wp2_with fail
      go_ret
      exact ⟨ret_int HO.out.symm, HA.out⟩
  · rw [if_neg h]
    have hne : (ap != bp) = true := by simpa using h
    by_cases hl : ap < bp
    · have hs : sgn ap bp = -1 := by unfold sgn; rw [if_pos hl]
      have HS := hide hs
      clear hs
      go_enter Try.func28, Try.ntmps28
      go_wp2_with fail
      go_ret
      exact ⟨ret_int HS.out.symm, HA.out⟩
    · have hs : sgn ap bp = 1 := by unfold sgn; rw [if_neg hl, if_pos (by omega)]
      have HS := hide hs
      clear hs
      go_enter Try.func28, Try.ntmps28
      go_wp2_with fail
      go_ret
      exact ⟨ret_int HS.out.symm, HA.out⟩
/-- What a record costs. -/
def costR (r : Rec) : Int := (r.k.size : Int) + (r.v.size : Int) + 32
theorem cost_any (r : Rec) (w : World) (hk : r.k.size ≤ 140737488355328) (hv : r.v.size ≤ 140737488355328) :
    Calls Try.prog 18 #[r.val] w fun e w' => e = .returned (.int .i64 (costR r)) ∧ Below w.heap.size w w' := by
  obtain ⟨ap, ak, av⟩ := r
  unfold Rec.val costR
  simp only at hk hv ⊢
  have HA := hide ((Below.refl w.heap.size w).alloc (Nat.le_refl _) (.cells #[.int .i64 ap, .string ak, .string av] 34))
  go_enter Try.func18, Try.ntmps18
  go_wp2_with fail
  go_ret
  exact ⟨rfl, HA.out⟩
theorem refCost_any (r : Rec) (w : World) (hk : r.k.size ≤ 140737488355328) (hv : r.v.size ≤ 140737488355328) :
    Calls Try.prog 20 #[r.val] w fun e w' => e = .returned (.int .i64 (costR r)) ∧ Below w.heap.size w w' := by
  obtain ⟨ap, ak, av⟩ := r
  unfold Rec.val costR
  simp only at hk hv ⊢
  have HA := hide ((Below.refl w.heap.size w).alloc (Nat.le_refl _) (.cells #[.int .i64 ap, .string ak, .string av] 34))
  go_enter Try.func20, Try.ntmps20
  go_wp2_with fail
  go_ret
  exact ⟨rfl, HA.out⟩
end Go.Proofs.Ytlbplicafcoifaa.So
