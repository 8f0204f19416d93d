/-
  Of: the lines of a piece, by the program and by the document.
-/
import Derived.Test.YtmhebaknoginhaaLnRef
namespace Go.Proofs.Ytmhebaknoginhaa.Ln
open Go.ChangeShapes Go.WideShapes Go.ChangeAt Go.RowKit
open Go.Proofs.Ytmhebaknoginhaa.Base Go.Proofs.Ytmhebaknoginhaa.Rf
set_option linter.unusedVariables false
/-- The error of a piece. -/
def ofErr (T : ByteArray) (f t : Int) : Int := if 4194304 < T.size then 2 else if f < 0 ∨ t < f ∨ (T.size : Int) < t then 3 else 0
/-- The first line of a piece, how many it has. -/
def ofA (T : ByteArray) (f : Int) : Nat := ix T f.toNat
def ofN (T : ByteArray) (f t : Int) : Nat := if ofErr T f t = 0 then ix T t.toNat - ix T f.toNat else 0
theorem lns_piece (T : ByteArray) (f t : Nat) (h : f ≤ t) (ht : t ≤ T.size) : lns (T.extract (lf T f) (lf T t)) 0 (cnt (T.extract (lf T f) (lf T t))) = lns T (ix T f) (ix T t - ix T f) := by
  have h1 := ix_mono T f t h
  have h2 := ix_le T t
  rw [lf_ix T f (by omega), lf_ix T t ht, cnt_extract T _ _ h1 h2]
  unfold lns
  apply List.map_congr_left
  intro k hk
  have hk := List.mem_range.1 hk
  rw [Nat.zero_add, ln_extract T _ _ k h2 (by omega)]
set_option maxHeartbeats 2000000 in
set_option maxRecDepth 100000 in
theorem of_ok (T : ByteArray) (f t : Nat) (w : World) (hs : T.size ≤ 4194304) (h : f ≤ t) (ht : t ≤ T.size) :
    Calls Try.prog 13 #[.string T, .agg #[.int .i64 (f : Int), .int .i64 (t : Int)]] w fun e w' => ∃ v, e = .returned (.tuple #[v, .int .i64 0]) ∧ OwnS w' w.heap.size v (lns T (ix T f) (ix T t - ix T f)) ∧ Below w.heap.size w w' := by
  obtain ⟨w1, hw1⟩ : ∃ w1, w.alloc (.cells #[.int .i64 (f : Int), .int .i64 (t : Int)] 33) = w1 := ⟨_, rfl⟩
  have HB1 : Hid (Below w.heap.size w w1) := by rw [← hw1]; exact (Below.refl _ _).alloc (Nat.le_refl _) _
  have HC1 : Hid (w1.heap[w.heap.size]? = some (.cells #[.int .i64 (f : Int), .int .i64 (t : Int)] 33)) := by rw [← hw1]; exact World.alloc_heap_new _ _
  have HLT : Hid (w.heap.size < w1.heap.size) := by rw [← hw1]; simp [Hid]
  obtain ⟨b, hb⟩ : ∃ b, w.heap.size = b := ⟨_, rfl⟩
  rw [hb] at HC1 HLT
  obtain ⟨c0, c1⟩ := cell2 HC1.out
  have HCC : Hid (∀ V, Below w1.heap.size w1 V → V.cell? ⟨b, 0, none⟩ = some (.int .i64 (f : Int)) ∧ V.cell? ⟨b, 1, none⟩ = some (.int .i64 (t : Int))) := fun V hV => cell2 ((hV.block b HLT.out).trans HC1.out)
  have HLF : Hid (∀ W (p : Nat), p ≤ T.size → Below w1.heap.size w1 W → Calls Try.prog 29 #[.string T, .int .i64 (p : Int)] W fun e w' => e = .returned (.int .i64 (lf T p : Nat)) ∧ Below w1.heap.size w1 w') := fun W p hp hW =>
    (lineFrom_any T p W (by omega) hp).mono fun e w' ⟨h1, h2⟩ => ⟨h1, hW.trans (h2.mono hW.size)⟩
  have HLN : Hid (∀ W, Below w1.heap.size w1 W → Calls Try.prog 11 #[.string (T.extract (lf T f) (lf T t))] W fun e w' => ∃ v, e = .returned v ∧ OwnS w' w1.heap.size v (lns T (ix T f) (ix T t - ix T f)) ∧ Below w1.heap.size w1 w') := fun W hW => by
    refine (lines_any _ W (by rw [ByteArray.size_extract]; omega)).mono ?_
    rintro e w' ⟨v, h1, h2, h3⟩
    rw [lns_piece T f t h ht] at h2
    exact ⟨v, h1, h2.mono hW.size, hW.trans (h3.mono hW.size)⟩
  have hl1 := lf_mono T f t h ht
  have hl2 := lf_le T t ht
  have HX : Hid (∀ p : Nat, lf T p = lf T p) := fun _ => rfl
  obtain ⟨F, hF⟩ : ∃ F, lf T = F := ⟨_, rfl⟩
  rw [hF] at HLF HLN hl1 hl2
  have hl1i : (F f : Int) ≤ (F t : Int) := by omega
  have hl2i : (F t : Int) ≤ (T.size : Int) := by omega
  have hfi : (0 : Int) ≤ (f : Int) := by omega
  have hfT : f ≤ T.size := by omega
  have hfn : ¬ (f : Int) < 0 := by omega
  have hft : (f : Int) ≤ (t : Int) := by omega
  have hti : (t : Int) ≤ (T.size : Int) := by omega
  have hsi : (T.size : Int) ≤ 4194304 := by omega
  have HSZ := hide hb
  clear hF HX
  go_enter Try.func13, Try.ntmps13
  go_wp2_with fail
  go_region_held (fun V => V.cell? ⟨b, 0, none⟩ = some (.int .i64 (f : Int)) ∧ V.cell? ⟨b, 1, none⟩ = some (.int .i64 (t : Int))) (first | go_keep | exact E8.out) (first
    | (go_at_call 29; refine (HLF.out _ _ (by first | exact hfT | exact ht) (by first | exact HB6.out | exact (Below.refl _ _).drew)).mono ?_; rintro e w6 ⟨rfl, hb6⟩; have HB6 := hide hb6; have E8 := hide (HCC.out _ hb6); clear hb6)
    | (go_at_call 11; refine (HLN.out _ HB6.out).mono ?_; rintro e w7 ⟨v, rfl, ho7, hb7⟩; have HO7 := hide ho7; have HB6 := hide hb7; have E8 := hide (HCC.out _ hb7); clear hb7 ho7))
  all_goals
    go_wp2_with fail
    go_ret2
    exact ⟨v, rfl, HO7.out.mono HB1.out.size, HB1.out.trans (HB6.out.mono HB1.out.size)⟩
set_option maxHeartbeats 2000000 in
theorem of_long (T : ByteArray) (f t : Int) (w : World) (hs : 4194304 < T.size) (hm : T.size ≤ 9223372036854775807) :
    Calls Try.prog 13 #[.string T, .agg #[.int .i64 f, .int .i64 t]] w fun e w' => e = .returned (.tuple #[.slice none 0 0, .int .i64 2]) ∧ Below w.heap.size w w' := by
  have hsi : (4194304 : Int) < (T.size : Int) := by omega
  go_enter Try.func13, Try.ntmps13
  go_wp2_with fail
  go_ret2
  exact ⟨rfl, (Below.refl _ _).alloc (Nat.le_refl _) _⟩
set_option maxHeartbeats 2000000 in
theorem of_arg (T : ByteArray) (f t : Int) (w : World) (hs : T.size ≤ 4194304) (h : f < 0 ∨ t < f ∨ (T.size : Int) < t) :
    Calls Try.prog 13 #[.string T, .agg #[.int .i64 f, .int .i64 t]] w fun e w' => e = .returned (.tuple #[.slice none 0 0, .int .i64 3]) ∧ Below w.heap.size w w' := by
  have hsi : (T.size : Int) ≤ 4194304 := by omega
  have hsn : ¬ (4194304 : Int) < (T.size : Int) := by omega
  by_cases h1 : f < 0
  · go_enter Try.func13, Try.ntmps13
    go_wp2_with fail
    go_ret2
    exact ⟨rfl, (Below.refl _ _).alloc (Nat.le_refl _) _⟩
  · by_cases h2 : t < f
    · clear h
      go_enter Try.func13, Try.ntmps13
      go_wp2_with fail
      go_ret2
      exact ⟨rfl, (Below.refl _ _).alloc (Nat.le_refl _) _⟩
    · have h3 : (T.size : Int) < t := by omega
      clear h
      go_enter Try.func13, Try.ntmps13
      go_wp2_with fail
      go_ret2
      exact ⟨rfl, (Below.refl _ _).alloc (Nat.le_refl _) _⟩
end Go.Proofs.Ytmhebaknoginhaa.Ln
