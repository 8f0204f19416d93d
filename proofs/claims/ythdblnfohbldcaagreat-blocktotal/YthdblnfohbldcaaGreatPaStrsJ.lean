/-
  Rows of ints: how a slice of them reads, and rows of the call's own.
-/
import Derived.Test.YthdblnfohbldcaaGreatBlModJ
import Derived.Deep.OwnRows
import Derived.Deep.MidRow
import Derived.Deep.RegionHeld
import Derived.Test.YthdblnfohbldcaaGreatHuffP3J
namespace Go.Proofs.YthdblnfohbldcaaGreat.Base
open Go.ChangeShapes Go.WideShapes Go.ChangeAt Go.RowKit
set_option linter.unusedVariables false
def VI (n : Int) : Value := .int .i64 n
def ivals (xs : List Int) : List Value := xs.map VI
theorem length_ivals (xs : List Int) : (ivals xs).length = xs.length := by simp [ivals]
theorem getD_ivals (xs : List Int) (i : Nat) (h : i < xs.length) : (ivals xs)[i]? = some (.int .i64 (xs.getD i 0)) := by
  rw [ivals, List.getElem?_map, List.getElem?_eq_getElem h, List.getD_eq_getElem?_getD, List.getElem?_eq_getElem h]; rfl
theorem ivals_set (xs : List Int) (k : Nat) (c : Int) : (ivals xs).set k (.int .i64 c) = ivals (xs.set k c) := by
  simp [ivals, VI, List.map_set]
/-- The slice 'a, len' reads as the ints 'xs'. -/
def RdI (w : World) (a : Option Addr) (len : Nat) (xs : List Int) : Prop :=
  xs.length = len ∧ len ≤ 17592186044416 ∧ (0 < len → ∃ b off, a = some ⟨b, off, none⟩ ∧ b < w.heap.size ∧ ∀ i, i < len → w.cell? ⟨b, off + i, none⟩ = some (.int .i64 (xs.getD i 0)))
theorem rdi_zero (w : World) (a : Option Addr) : RdI w a 0 [] := ⟨rfl, by omega, fun h => absurd h (by omega)⟩
theorem RdI.below {w w' : World} {a : Option Addr} {len : Nat} {xs : List Int} (h : RdI w a len xs) (hb : Below w.heap.size w w') : RdI w' a len xs := by
  obtain ⟨h1, h2, h3⟩ := h
  refine ⟨h1, h2, fun hp => ?_⟩
  obtain ⟨b, off, rfl, hlt, hc⟩ := h3 hp
  refine ⟨b, off, rfl, Nat.lt_of_lt_of_le hlt hb.size, fun i hi => ?_⟩
  rw [hb.cell (p := ⟨b, off + i, none⟩) hlt]
  exact hc i hi
theorem rdi_row {w : World} {x : Addr} {l c : Nat} {zs : List Int} (hl : l ≤ c) (hz : zs.length = c) (hcell : ∀ i, i < zs.length → w.cell? (x.add i) = some (.int .i64 (zs.getD i 0)))
    (hc : c ≤ 17592186044416) : ∃ xs, RdI w (some x) l xs := by
  refine ⟨zs.take l, by simp; omega, by omega, fun hp => ?_⟩
  obtain ⟨b, off, spot⟩ := x
  have h0 := hcell 0 (by omega)
  have hspot : spot = none := by simpa [Addr.add] using World.cell?_spot h0
  subst hspot
  refine ⟨b, off, rfl, ?_, fun i hi => ?_⟩
  · have := block_lt_of_cell h0
    simpa [Addr.add] using this
  · have h := hcell i (by omega)
    rw [show (⟨b, off, none⟩ : Addr).add i = ⟨b, off + i, none⟩ by simp [Addr.add]] at h
    rw [h, List.getD_eq_getElem?_getD, List.getD_eq_getElem?_getD, List.getElem?_take, if_pos hi]
/-- The block g is a row of the ints 'xs'. -/
def RowI (t : TypeId) (w : World) (g : Nat) (xs : List Int) : Prop := w.heap[g]? = some (.cells (ivals xs).toArray t)
theorem RowI.cell {t : TypeId} {w : World} {g : Nat} {xs : List Int} (h : RowI t w g xs) (k : Nat) (hk : k < xs.length) : w.cell? ⟨g, k, none⟩ = some (.int .i64 (xs.getD k 0)) := by
  rw [cell_of_row _ _ _ _ _ _ h, List.getElem?_toArray, getD_ivals xs k hk]
theorem RowI.frozen {t : TypeId} {w : World} {g : Nat} {xs : List Int} (h : RowI t w g xs) (k : Nat) : w.frozen? ⟨g, k, none⟩ = false := frozen_of_row _ _ _ _ _ h
theorem RowI.lt {t : TypeId} {w : World} {g : Nat} {xs : List Int} (h : RowI t w g xs) : g < w.heap.size := by
  by_cases hg : g < w.heap.size
  · exact hg
  · unfold RowI at h
    rw [Array.getElem?_eq_none (by omega)] at h
    cases h
theorem RowI.store {t : TypeId} {w : World} {g : Nat} {xs : List Int} (h : RowI t w g xs) (k : Nat) (d : Int) : RowI t (w.setCell ⟨g, k, none⟩ (.int .i64 d)) g (xs.set k d) := by
  unfold RowI
  rw [heap_setCell_same _ _ _ _ _ _ h, ← ivals_set, List.setIfInBounds_toArray]
theorem RowI.grown {t : TypeId} {w w' : World} {g : Nat} {xs : List Int} {r : Option Nat} (h : RowI t w g xs) (hg : w.grownBy w' r) (hr : r ≠ some g) : RowI t w' g xs := by
  unfold RowI
  rw [hg.block g h.lt (fun e => hr e.symm)]
  exact h
theorem RowI.below {t : TypeId} {w w' : World} {g : Nat} {xs : List Int} (h : RowI t w g xs) (hb : Below w.heap.size w w') : RowI t w' g xs := h.grown (below_grown hb) (by simp)
theorem RowI.rd {t : TypeId} {w : World} {g : Nat} {xs : List Int} (h : RowI t w g xs) (n : Nat) (hn : n ≤ xs.length) (hl : n ≤ 17592186044416) : RdI w (some ⟨g, 0, none⟩) n (xs.take n) := by
  refine ⟨by rw [List.length_take]; omega, hl, fun hp => ⟨g, 0, rfl, h.lt, fun i hi => ?_⟩⟩
  rw [Nat.zero_add, h.cell i (by omega), List.getD_eq_getElem?_getD, List.getD_eq_getElem?_getD, List.getElem?_take, if_pos hi]
theorem infoI {t : TypeId} (h : t = 3 ∨ t = 2) : (Tryz.prog.info? t).map (fun i => (i.zero, i.size, i.bytes)) = some (some (.int .i64 0), 1, 8) := by
  rcases h with rfl | rfl <;> kernel_rfl
theorem madei (n : Nat) : madeCells #[Value.int .i64 0] n = (ivals (List.replicate n 0)).toArray := by
  apply Array.ext
  · rw [size_madeCells]; simp [ivals]
  · intro k h1 h2
    simp [madeCells, ivals, VI, Nat.mod_one]
theorem make_row_int (n : Nat) (m : Int) (hm : m = (n : Int)) (h : n ≤ 17592186044416) : ∀ W, (Instr.makeSlice 55 (.int .i64 m) (.int .i64 m)).run Tryz.prog W = .ok (.slice (some ⟨W.heap.size, 0, none⟩) n n) (W.alloc (.cells (ivals (List.replicate n 0)).toArray 3)) := by
  intro W
  subst hm
  rw [← madei]
  exact run_make_row' 55 3 (.int .i64 0) 8 Tryz.underlying55 (infoI (.inl rfl)) rfl .i64 .i64 n (by omega) (by omega) W
theorem make_row_i64 (n : Nat) (m : Int) (hm : m = (n : Int)) (h : n ≤ 17592186044416) : ∀ W, (Instr.makeSlice 98 (.int .i64 m) (.int .i64 m)).run Tryz.prog W = .ok (.slice (some ⟨W.heap.size, 0, none⟩) n n) (W.alloc (.cells (ivals (List.replicate n 0)).toArray 2)) := by
  intro W
  subst hm
  rw [← madei]
  exact run_make_row' 98 2 (.int .i64 0) 8 Tryz.underlying98 (infoI (.inr rfl)) rfl .i64 .i64 n (by omega) (by omega) W
theorem rowi_new (t : TypeId) (w : World) (xs : List Int) : RowI t (w.alloc (.cells (ivals xs).toArray t)) w.heap.size xs := heap_alloc_new _ _
/-- The first k of zs are laid, the rest are zeros. -/
def laidTo (zs : List Int) (k : Nat) : List Int := zs.take k ++ List.replicate (zs.length - k) 0
theorem laidTo_len (zs : List Int) (k : Nat) (h : k ≤ zs.length) : (laidTo zs k).length = zs.length := by
  unfold laidTo; rw [List.length_append, List.length_take, List.length_replicate]; omega
theorem laidTo_zero (zs : List Int) : laidTo zs 0 = List.replicate zs.length 0 := by unfold laidTo; simp
theorem laidTo_all (zs : List Int) : laidTo zs zs.length = zs := by unfold laidTo; simp
theorem laidTo_set (zs : List Int) (k : Nat) (h : k < zs.length) (c d : Int) : ((laidTo zs k).set k c).set k d = (laidTo zs k).set k d := List.set_set c
theorem laidTo_succ (zs : List Int) (k : Nat) (h : k < zs.length) : (laidTo zs k).set k (zs.getD k 0) = laidTo zs (k + 1) := by
  unfold laidTo
  have hl : (zs.take k).length = k := by rw [List.length_take]; omega
  rw [List.set_append_right _ _ (by omega), hl, Nat.sub_self, show zs.length - k = (zs.length - (k + 1)) + 1 by omega, List.replicate_succ, List.set_cons_zero,
    List.take_succ_eq_append_getElem h, List.append_assoc, List.getD_eq_getElem?_getD, List.getElem?_eq_getElem h]
  rfl
end Go.Proofs.YthdblnfohbldcaaGreat.Base
/-
  Slices of ints of the call's own: append of one more.
-/
namespace Go.Proofs.YthdblnfohbldcaaGreat.Base
open Go.ChangeShapes Go.WideShapes Go.ChangeAt Go.RowKit
set_option linter.unusedVariables false
theorem ivals_app (a b : List Int) : ivals (a ++ b) = ivals a ++ ivals b := by simp [ivals]
theorem ivals_all (xs : List Int) : ∀ v ∈ ivals xs, v.oneCell' = true := by
  intro v hv
  simp only [ivals, List.mem_map] at hv
  obtain ⟨c, _, rfl⟩ := hv
  rfl
/-- The slice v leads to a row of ints of the call's own. -/
def OwnI (w : World) (base : Nat) (v : Value) (xs : List Int) : Prop := w.ownsRow base 3 1 v xs.length (ivals xs)
theorem ownI_none (w : World) (base : Nat) : OwnI w base (.slice none 0 0) [] := ⟨by simp [ivals], .inl ⟨rfl, rfl⟩⟩
theorem OwnI.shape {w : World} {base : Nat} {v : Value} {xs : List Int} (h : OwnI w base v xs) : ∃ a c, v = .slice a xs.length c := by
  rcases h.2 with ⟨h1, h2⟩ | ⟨g, c, cur, h1, _⟩
  · exact ⟨none, 0, by rw [h1, h2]⟩
  · exact ⟨_, c, h1⟩
theorem ownI_keep {w w' : World} {base : Nat} {v : Value} {xs : List Int} {q : Option Nat} (h : OwnI w base v xs) (hg : w.grownBy w' q) (hne : ∀ i, v.ownBlock = some i → q ≠ some i) : OwnI w' base v xs := by
  refine World.ownsRow.kept (row := q) h hg ?_
  cases hv : v.ownBlock with
  | none => exact .inl rfl
  | some k => exact .inr (fun e => hne k hv e.symm)
theorem OwnI.below {w w' : World} {base : Nat} {v : Value} {xs : List Int} (h : OwnI w base v xs) (hb : Below w.heap.size w w') : OwnI w' base v xs := ownI_keep h (below_grown hb) (fun i _ => by simp)
theorem OwnI.lt {w : World} {base : Nat} {v : Value} {xs : List Int} (h : OwnI w base v xs) : ∀ i, v.ownBlock = some i → base ≤ i ∧ i < w.heap.size := fun i e => World.ownsRow.lt h i e
theorem OwnI.rd {w : World} {base n c : Nat} {a : Option Addr} {xs : List Int} (h : OwnI w base (.slice a n c) xs) (hl : xs.length ≤ 17592186044416) : RdI w a n xs := by
  rcases h.2 with ⟨h1, h2⟩ | ⟨g, cap', cur, h1, _⟩
  · simp only [Value.slice.injEq] at h1
    obtain ⟨rfl, rfl, rfl⟩ := h1
    have : xs = [] := List.length_eq_zero_iff.1 h2
    subst this
    exact rdi_zero _ _
  · simp only [Value.slice.injEq] at h1
    obtain ⟨rfl, rfl, rfl⟩ := h1
    refine ⟨rfl, hl, fun hp => ⟨g, 0, rfl, (World.ownsRow.lt h g rfl).2, fun i hi => ?_⟩⟩
    rw [Nat.zero_add, World.ownsRow.cellAt h i (by omega), getD_ivals xs i hi]
/-- append of one int onto such a slice. -/
theorem pushI {ops : Array Oper} {rest : List Oper} {o : Oper} {a : Act} {Q : Exit → Act → World → Prop} (w : World) (hgd : o.guard = none) (s x : Operand)
    (ho : o.op = .call { callee := .builtin .append, args := #[s, x], argTypes := #[55, 55] })
    (base : Nat) (v : Value) (xs : List Int) (hs : a.eval s = v) (hown : OwnI w base v xs) (ad : Addr) (cap : Nat) (c : Int) (hx : a.eval x = .slice (some ad) 1 cap)
    (hc : w.cell? (ad.add 0) = some (.int .i64 c)) (hl : xs.length + 1 ≤ 17592186044416) (hbase : base ≤ w.heap.size)
    (h : ∀ v' w', OwnI w' base v' (xs ++ [c]) → w.grownBy w' v.ownBlock → wpList Tryz.prog ops Q rest (a.put o.dst v') w') : wpList Tryz.prog ops Q (o :: rest) a w := by
  obtain ⟨i0, hi, hz0, hz1, hz2⟩ := info_parts (infoI (.inl rfl))
  refine wpList_append_own w hgd s x 55 ho base 3 i0 (.int .i64 0) 1 8 Tryz.underlying55 hi hz0 hz1 hz2 rfl (by omega) v xs.length (ivals xs) hs hown ad 1 cap [.int .i64 c] hx rfl ?_ (ivals_all [c]) (by unfold maxLen; omega) (by omega) hbase ?_
  · intro j u hu
    cases j with
    | zero => simp at hu; subst hu; exact hc
    | succ j => simp at hu
  · intro v' w' h1 h2 _
    refine h v' w' ?_ h2
    unfold OwnI
    rw [List.length_append, ivals_app]
    exact h1
end Go.Proofs.YthdblnfohbldcaaGreat.Base
/-
  slices.IsSorted of numbers.
-/
namespace Go.Proofs.YthdblnfohbldcaaGreat.Bl
open Go.ChangeShapes Go.WideShapes Go.ChangeAt Go.RowKit
open Go.Proofs.YthdblnfohbldcaaGreat.Base Go.Proofs.YthdblnfohbldcaaGreat.Nums
set_option linter.unusedVariables false
/-- Numbers do not fall. -/
def upI : List Int → Bool
  | [] => true
  | [_] => true
  | a :: b :: l => decide (a ≤ b) && upI (b :: l)
theorem upI_of : ∀ l : List Int, (∀ g, g + 1 < l.length → l.getD g 0 ≤ l.getD (g + 1) 0) → upI l = true
  | [], _ => rfl
  | [_], _ => rfl
  | a :: b :: l, h => by
    unfold upI
    rw [Bool.and_eq_true]
    exact ⟨decide_eq_true (h 0 (by simp)), upI_of (b :: l) (fun g hg => h (g + 1) (by simp at hg ⊢; omega))⟩
theorem upI_get : ∀ (l : List Int), upI l = true → ∀ g, g + 1 < l.length → l.getD g 0 ≤ l.getD (g + 1) 0
  | [], _, g, hg => by simp at hg
  | [_], _, g, hg => by simp at hg
  | a :: b :: l, h, g, hg => by
    unfold upI at h
    rw [Bool.and_eq_true] at h
    cases g with
    | zero => exact of_decide_eq_true h.1
    | succ g => exact upI_get (b :: l) h.2 g (by simp at hg ⊢; omega)
theorem upI_not (l : List Int) (g : Nat) (hg : g + 1 < l.length) (h : l.getD (g + 1) 0 < l.getD g 0) : upI l = false := by
  rw [Bool.eq_false_iff]
  intro e
  have := upI_get l e g hg
  omega
theorem less_any (a b : Int) (w : World) : Calls Tryz.prog 132 #[.int .i64 a, .int .i64 b] w fun e w' => e = .returned (.bool (decide (a < b))) ∧ w' = w := by
  by_cases h : a < b
  · have hd : decide (a < b) = true := by simpa using h
    go_enter Tryz.func132, Tryz.ntmps132
    go_wp2_with (go_at_call 144; refine (nanI_any _ _).mono ?_; rintro e w ⟨rfl, rfl⟩)
    all_goals
      go_ret
      exact ⟨by first | rfl | simp [h], rfl⟩
  · have hd : decide (a < b) = false := by simpa using h
    go_enter Tryz.func132, Tryz.ntmps132
    go_wp2_with (go_at_call 144; refine (nanI_any _ _).mono ?_; rintro e w ⟨rfl, rfl⟩)
    all_goals
      go_ret
      exact ⟨by first | rfl | simp [h], rfl⟩
set_option maxHeartbeats 2000000 in
set_option maxRecDepth 100000 in
theorem sorted_any (a : Option Addr) (len cap : Nat) (xs : List Int) (w : World) (hr : RdI w a len xs) :
    Calls Tryz.prog 86 #[.slice a len cap] w fun e w' => e = .returned (.bool (upI xs)) ∧ Below w.heap.size w w' := by
  have hl := hr.2.1
  have HR := hide hr
  clear hr
  go_enter Tryz.func86, Tryz.ntmps86
  go_wp2_with fail
  go_loopw [3] (fun i wr => ∃ z : Int, -1 ≤ z ∧ z < (len : Int) ∧ i = .int .i64 z ∧ Hid (∀ j : Nat, z ≤ (j : Int) → j + 1 < xs.length → xs.getD j 0 ≤ xs.getD (j + 1) 0) ∧ Hid (Below w.heap.size w wr)) (fun i _ => (intOf i).toNat)
  case atStart => exact ⟨(len : Int) - 1, by omega, by omega, by go_num, fun j h1 h2 => by rw [HR.out.1] at h2; omega, Below.refl _ _⟩
  case round =>
    obtain ⟨z, hz1, hz2, rfl, HJ, HB⟩ := hrel
    by_cases hlt : 0 < z
    · obtain ⟨m, rfl⟩ : ∃ m : Nat, z = (m : Int) + 1 := ⟨z.toNat - 1, by omega⟩
      have hml : m + 1 < len := by omega
      obtain ⟨b1, o1, rfl, _, hc1⟩ := (HR.out.below HB.out).2.2 (by omega)
      have g1 := hc1 (m + 1) hml
      have g2 := hc1 m (by omega)
      have HN : Hid (∀ j : Nat, m = j → xs.getD j 0 = xs.getD m 0 ∧ xs.getD (j + 1) 0 = xs.getD (m + 1) 0) := fun j e => by rw [e]; exact ⟨rfl, rfl⟩
      generalize hs1 : xs.getD (m + 1) 0 = s at g1 HN
      generalize hs2 : xs.getD m 0 = t at g2 HN
      have HS1 := hide hs1
      have HS2 := hide hs2
      clear hc1 hs1 hs2
      have i1 : (m : Int) + 1 < (len : Int) := by omega
      have i2 : (m : Int) < (len : Int) := by omega
      have i3 : (m : Int) + 1 - 1 = (m : Int) := by omega
      have i4 : ((m : Int) + 1).toNat = m + 1 := by omega
      go_wp2_with fail
      go_quiet (first | (go_at_call 132; exact Calls.quiet_of_same (less_any s t _)))
      all_goals
        by_cases hc : s < t
        · have hd : decide (s < t) = true := by simpa using hc
          rw [hd]
          go_wp2_with fail
          go_ret
          exact ⟨ret_bool (upI_not xs m (by rw [HR.out.1]; omega) (by rw [HS1.out, HS2.out]; exact hc)).symm, below_trans HB.out (below_drewN' _ _ _)⟩
        · have hd : decide (s < t) = false := by simpa using hc
          rw [hd]
          go_wp2_with fail
          go_roundw
          case rel =>
            refine ⟨(m : Int), by omega, by omega, by go_num, ?_, below_trans HB.out (below_drewN' _ _ _)⟩
            intro j h1 h2
            by_cases e : m = j
            · have h3 := HN.out j e
              rw [h3.1, h3.2]
              omega
            · exact HJ.out j (by omega) h2
          case measure => (simp [intOf] <;> omega)
    · go_wp2_with fail
      go_ret
      exact ⟨ret_bool (upI_of xs (fun g hg => HJ.out g (by omega) hg)).symm, HB.out⟩
end Go.Proofs.YthdblnfohbldcaaGreat.Bl
/-
  What lengths cost: the program's and the document's answer.
-/
namespace Go.Proofs.YthdblnfohbldcaaGreat.Huff
open Go.ChangeShapes Go.WideShapes Go.ChangeAt Go.RowKit
open Go.Proofs.YthdblnfohbldcaaGreat.Base
set_option linter.unusedVariables false
/-- All from 0 to m. -/
def allIn (m : Int) (xs : List Int) : Bool := xs.all fun x => decide (0 ≤ x ∧ x ≤ m)
theorem allIn_drop (m : Int) (xs : List Int) (k : Nat) (h : k < xs.length) : allIn m (xs.drop k) = (decide (0 ≤ xs.getD k 0 ∧ xs.getD k 0 ≤ m) && allIn m (xs.drop (k + 1))) := by
  rw [List.drop_eq_getElem_cons h]
  unfold allIn
  rw [List.all_cons, List.getD_eq_getElem?_getD, List.getElem?_eq_getElem h]
  rfl
theorem allIn_end (m : Int) (xs : List Int) (k : Nat) (h : xs.length ≤ k) : allIn m (xs.drop k) = true := by
  rw [List.drop_eq_nil_of_le h]; rfl
theorem allIn_get {m : Int} {xs : List Int} (h : allIn m xs = true) (k : Nat) (hk : k < xs.length) : 0 ≤ xs.getD k 0 ∧ xs.getD k 0 ≤ m := by
  unfold allIn at h
  rw [List.all_eq_true] at h
  have := h (xs.getD k 0) (by rw [List.getD_eq_getElem?_getD, List.getElem?_eq_getElem hk]; exact List.getElem_mem hk)
  simpa using this
theorem in_pos {m x : Int} (h1 : 0 ≤ x) (h2 : x ≤ m) (b : Bool) : (decide (0 ≤ x ∧ x ≤ m) && b) = b := by rw [decide_eq_true ⟨h1, h2⟩]; rfl
theorem in_neg {m x : Int} (h : ¬ (0 ≤ x ∧ x ≤ m)) (b : Bool) : (decide (0 ≤ x ∧ x ≤ m) && b) = false := by rw [decide_eq_false h]; rfl
set_option maxHeartbeats 1000000 in
theorem areCounts_any (a : Option Addr) (len cap : Nat) (xs : List Int) (w : World) (hr : RdI w a len xs) :
    Calls Tryz.prog 96 #[.slice a len cap] w fun e w' => e = .returned (.bool (allIn 1099511627776 xs)) ∧ w' = w := by
  obtain ⟨h1, hm, h3⟩ := hr
  have HL := hide h1
  have HC := hide h3
  clear h1 h3
  go_enter Tryz.func96, Tryz.ntmps96
  go_wp2
  go_loopw [7] (fun i wr => ∃ k : Nat, k ≤ len ∧ i = .int .i64 (k : Int) ∧ Hid (allIn 1099511627776 xs = allIn 1099511627776 (xs.drop k)) ∧ wr = w) (fun i _ => len - (intOf i).toNat)
  case atStart => exact ⟨0, Nat.zero_le _, rfl, rfl, rfl⟩
  case round =>
    obtain ⟨k, hk, rfl, HE, rfl⟩ := hrel
    by_cases hlt : k < len
    · obtain ⟨b1, o1, rfl, hb1, hc1⟩ := unhide HC (by omega)
      have g1 := hc1 k hlt
      have HD := hide (allIn_drop 1099511627776 xs k (by have := HL.out; omega))
      clear hc1
      have hki : (k : Int) < (len : Int) := by omega
      generalize xs.getD k 0 = x at g1 HD
      by_cases hx : 0 ≤ x ∧ x ≤ 1099511627776
      · obtain ⟨x1, x2⟩ := hx
        have HD2 := hide (HD.out.trans (in_pos x1 x2 _))
        go_wp2
        go_roundw
        case rel => exact ⟨k + 1, by omega, by go_num, HE.out.trans HD2.out, by first | rfl | trivial⟩
        case measure => simp [intOf]; omega
      · have HD2 := hide (HE.out.trans (HD.out.trans (in_neg hx _)))
        rcases Int.lt_or_le x 0 with h0 | h0
        · go_wp2
          go_ret
          exact ⟨ret_bool HD2.out.symm, rfl⟩
        · have h1 : 1099511627776 < x := by omega
          have h0' : ¬ x < 0 := by omega
          go_wp2
          go_ret
          exact ⟨ret_bool HD2.out.symm, rfl⟩
    · go_wp2
      go_ret
      exact ⟨ret_bool (HE.out.trans (allIn_end _ _ _ (by have := HL.out; omega))).symm, rfl⟩
set_option maxHeartbeats 1000000 in
theorem areLengths_any (a : Option Addr) (len cap : Nat) (xs : List Int) (w : World) (hr : RdI w a len xs) :
    Calls Tryz.prog 99 #[.slice a len cap] w fun e w' => e = .returned (.bool (allIn 15 xs)) ∧ w' = w := by
  obtain ⟨h1, hm, h3⟩ := hr
  have HL := hide h1
  have HC := hide h3
  clear h1 h3
  go_enter Tryz.func99, Tryz.ntmps99
  go_wp2
  go_loopw [7] (fun i wr => ∃ k : Nat, k ≤ len ∧ i = .int .i64 (k : Int) ∧ Hid (allIn 15 xs = allIn 15 (xs.drop k)) ∧ wr = w) (fun i _ => len - (intOf i).toNat)
  case atStart => exact ⟨0, Nat.zero_le _, rfl, rfl, rfl⟩
  case round =>
    obtain ⟨k, hk, rfl, HE, rfl⟩ := hrel
    by_cases hlt : k < len
    · obtain ⟨b1, o1, rfl, hb1, hc1⟩ := unhide HC (by omega)
      have g1 := hc1 k hlt
      have HD := hide (allIn_drop 15 xs k (by have := HL.out; omega))
      clear hc1
      have hki : (k : Int) < (len : Int) := by omega
      generalize xs.getD k 0 = x at g1 HD
      by_cases hx : 0 ≤ x ∧ x ≤ 15
      · obtain ⟨x1, x2⟩ := hx
        have HD2 := hide (HD.out.trans (in_pos x1 x2 _))
        go_wp2
        go_roundw
        case rel => exact ⟨k + 1, by omega, by go_num, HE.out.trans HD2.out, by first | rfl | trivial⟩
        case measure => simp [intOf]; omega
      · have HD2 := hide (HE.out.trans (HD.out.trans (in_neg hx _)))
        rcases Int.lt_or_le x 0 with h0 | h0
        · go_wp2
          go_ret
          exact ⟨ret_bool HD2.out.symm, rfl⟩
        · have h1 : 15 < x := by omega
          have h0' : ¬ x < 0 := by omega
          go_wp2
          go_ret
          exact ⟨ret_bool HD2.out.symm, rfl⟩
    · go_wp2
      go_ret
      exact ⟨ret_bool (HE.out.trans (allIn_end _ _ _ (by have := HL.out; omega))).symm, rfl⟩
/-- The sum over the first k places. -/
def sumTo (cs ls : List Int) : Nat → Int
  | 0 => 0
  | k + 1 => sumTo cs ls k + cs.getD k 0 * ls.getD k 0
theorem sumTo_in (cs ls : List Int) (hc : allIn 1099511627776 cs = true) (hl : allIn 15 ls = true) : ∀ k, k ≤ cs.length → k ≤ ls.length → 0 ≤ sumTo cs ls k ∧ sumTo cs ls k ≤ (k : Int) * 16492674416640 := by
  intro k
  induction k with
  | zero => intro _ _; simp [sumTo]
  | succ k ih =>
    intro h1 h2
    obtain ⟨i1, i2⟩ := ih (by omega) (by omega)
    obtain ⟨c1, c2⟩ := allIn_get hc k (by omega)
    obtain ⟨l1, l2⟩ := allIn_get hl k (by omega)
    have m1 : 0 ≤ cs.getD k 0 * ls.getD k 0 := Int.mul_nonneg c1 l1
    have m2 : cs.getD k 0 * ls.getD k 0 ≤ 1099511627776 * 15 := Int.mul_le_mul c2 l2 l1 (by decide)
    simp only [sumTo]
    omega
/-- What Cost answers. -/
def costd (cs ls : List Int) : Int × Int :=
  if 256 < cs.length ∨ 256 < ls.length then (0, 2) else if (allIn 1099511627776 cs && allIn 15 ls) = true then (sumTo cs ls (min cs.length ls.length), 0) else (0, 3)
end Go.Proofs.YthdblnfohbldcaaGreat.Huff
/-
  Canonical words: how many have a length, the first of each length, how many are shorter.
-/
namespace Go.Proofs.YthdblnfohbldcaaGreat.Huff
open Go.ChangeShapes Go.WideShapes Go.ChangeAt Go.RowKit
open Go.Proofs.YthdblnfohbldcaaGreat.Base
set_option linter.unusedVariables false
/-- How many of the first k have the length l. -/
def cnt (ls : List Int) (l : Nat) : Nat → Nat
  | 0 => 0
  | k + 1 => cnt ls l k + if ls.getD k 0 = (l : Int) then 1 else 0
theorem cnt_le (ls : List Int) (l k : Nat) : cnt ls l k ≤ k := by
  induction k with
  | zero => exact Nat.le_refl _
  | succ k ih => simp only [cnt]; split <;> omega
theorem cnt_mono (ls : List Int) (l : Nat) {j k : Nat} (h : j ≤ k) : cnt ls l j ≤ cnt ls l k := by
  induction k with
  | zero => have : j = 0 := by omega
            subst this; exact Nat.le_refl _
  | succ k ih =>
    by_cases e : j = k + 1
    · subst e; exact Nat.le_refl _
    · simp only [cnt]; have := ih (by omega); omega
/-- How many words have the length l, of those of the first k. -/
def cntW (ls : List Int) (k l : Nat) : Nat := if l = 0 then 0 else cnt ls l k
def first (ls : List Int) : Nat → Nat
  | 0 => 0
  | l + 1 => 2 * (first ls l + cntW ls ls.length l)
def ahead (ls : List Int) : Nat → Nat
  | 0 => 0
  | l + 1 => ahead ls l + cntW ls ls.length l
theorem cntW_le (ls : List Int) (k l : Nat) : cntW ls k l ≤ k := by
  unfold cntW; split
  · omega
  · exact cnt_le _ _ _
theorem first_le (ls : List Int) (h : ls.length ≤ 256) : ∀ l, first ls l + 512 ≤ 512 * 2 ^ l := by
  intro l
  induction l with
  | zero => simp [first]
  | succ l ih =>
    have := cntW_le ls ls.length l
    simp only [first, Nat.pow_succ]
    omega
theorem ahead_le (ls : List Int) (h : ls.length ≤ 256) : ∀ l, ahead ls l ≤ 256 * l := by
  intro l
  induction l with
  | zero => simp [ahead]
  | succ l ih =>
    have := cntW_le ls ls.length l
    simp only [ahead]
    omega
/-- What stands behind the last word of MaxCode bits. -/
def last (ls : List Int) : Nat := first ls 15 + cntW ls ls.length 15
def right (ls : List Int) : Bool := decide (last ls ≤ 32768)
/-- The three rows, one behind the other. -/
def wordsOf (ls : List Int) : List Int := (List.range 16).map (fun l => (cntW ls ls.length l : Int)) ++ ((List.range 16).map (fun l => (first ls l : Int)) ++ (List.range 16).map (fun l => (ahead ls l : Int)))
theorem wordsOf_len (ls : List Int) : (wordsOf ls).length = 48 := by simp [wordsOf]
theorem getD_map_range (f : Nat → Int) (n k : Nat) (h : k < n) : ((List.range n).map f).getD k 0 = f k := by
  rw [List.getD_eq_getElem?_getD, List.getElem?_map, List.getElem?_range h]; rfl
theorem wordsOf_count (ls : List Int) (l : Nat) (h : l < 16) : (wordsOf ls).getD l 0 = (cntW ls ls.length l : Int) := by
  unfold wordsOf
  rw [List.getD_eq_getElem?_getD, List.getElem?_append_left (by simp; exact h), ← List.getD_eq_getElem?_getD, getD_map_range _ _ _ h]
theorem wordsOf_first (ls : List Int) (l : Nat) (h : l < 16) : (wordsOf ls).getD (16 + l) 0 = (first ls l : Int) := by
  unfold wordsOf
  rw [List.getD_eq_getElem?_getD, List.getElem?_append_right (by simp), List.length_map, List.length_range, Nat.add_sub_cancel_left, List.getElem?_append_left (by simp; exact h), ← List.getD_eq_getElem?_getD, getD_map_range _ _ _ h]
theorem wordsOf_ahead (ls : List Int) (l : Nat) (h : l < 16) : (wordsOf ls).getD (32 + l) 0 = (ahead ls l : Int) := by
  unfold wordsOf
  rw [List.getD_eq_getElem?_getD, List.getElem?_append_right (by simp; omega), List.length_map, List.length_range, List.getElem?_append_right (by simp; omega), List.length_map, List.length_range, show 32 + l - 16 - 16 = l by omega, ← List.getD_eq_getElem?_getD, getD_map_range _ _ _ h]
theorem ext48 (A B : List Int) (ha : A.length = 48) (hb : B.length = 48) (h : ∀ j, j < 48 → A.getD j 0 = B.getD j 0) : A = B := by
  apply List.ext_getElem (by omega)
  intro j h1 h2
  have := h j (by omega)
  rw [List.getD_eq_getElem?_getD, List.getD_eq_getElem?_getD, List.getElem?_eq_getElem h1, List.getElem?_eq_getElem h2] at this
  exact this
theorem words_eq (ls L : List Int) (hl : L.length = 48) (h1 : ∀ l, l < 16 → L.getD l 0 = (cntW ls ls.length l : Int)) (h2 : ∀ l, l < 16 → L.getD (16 + l) 0 = (first ls l : Int)) (h3 : ∀ l, l < 16 → L.getD (32 + l) 0 = (ahead ls l : Int)) : L = wordsOf ls := by
  refine ext48 L _ hl (wordsOf_len ls) fun j hj => ?_
  by_cases a : j < 16
  · rw [h1 j a, wordsOf_count ls j a]
  · by_cases b : j < 32
    · obtain ⟨l, rfl⟩ : ∃ l, j = 16 + l := ⟨j - 16, by omega⟩
      rw [h2 l (by omega), wordsOf_first ls l (by omega)]
    · obtain ⟨l, rfl⟩ : ∃ l, j = 32 + l := ⟨j - 32, by omega⟩
      rw [h3 l (by omega), wordsOf_ahead ls l (by omega)]
theorem getD_set (L : List Int) (i j : Nat) (v : Int) (h : i < L.length) : (L.set i v).getD j 0 = if i = j then v else L.getD j 0 := by
  rw [List.getD_eq_getElem?_getD, List.getElem?_set, List.getD_eq_getElem?_getD]
  by_cases e : i = j
  · rw [if_pos e, if_pos e, if_pos h]; rfl
  · rw [if_neg e, if_neg e]
/-- The counts when the first k have been looked at. -/
def CntAt (ls L : List Int) (k : Nat) : Prop := L.length = 48 ∧ (∀ l, l < 16 → L.getD l 0 = (cntW ls k l : Int)) ∧ ∀ j, 16 ≤ j → j < 48 → L.getD j 0 = 0
theorem cntAt_zero (ls : List Int) : CntAt ls (List.replicate 48 0) 0 := by
  refine ⟨List.length_replicate, fun l hl => ?_, fun j h1 h2 => ?_⟩
  · rw [List.getD_eq_getElem?_getD, List.getElem?_replicate, if_pos (by omega)]
    unfold cntW; split <;> rfl
  · rw [List.getD_eq_getElem?_getD, List.getElem?_replicate, if_pos (by omega)]; rfl
theorem cntAt_skip {ls L : List Int} {k : Nat} (h : CntAt ls L k) (hx : ls.getD k 0 = 0) : CntAt ls L (k + 1) := by
  refine ⟨h.1, fun l hl => ?_, h.2.2⟩
  rw [h.2.1 l hl]
  unfold cntW
  split
  · rfl
  · simp only [cnt]; rw [if_neg (by rw [hx]; omega)]; rfl
theorem cntAt_inc {ls L : List Int} {k q : Nat} (h : CntAt ls L k) (hx : ls.getD k 0 = (q : Int)) (hq : 0 < q) (hq2 : q < 16) : CntAt ls (L.set q ((cntW ls k q : Int) + 1)) (k + 1) := by
  refine ⟨by rw [List.length_set]; exact h.1, fun l hl => ?_, fun j h1 h2 => ?_⟩
  · rw [getD_set _ _ _ _ (by rw [h.1]; omega)]
    by_cases e : q = l
    · subst e
      rw [if_pos rfl]
      unfold cntW
      rw [if_neg (by omega), if_neg (by omega)]
      simp only [cnt]
      rw [if_pos hx]
      omega
    · rw [if_neg e, h.2.1 l hl]
      unfold cntW
      split
      · rfl
      · simp only [cnt]; rw [if_neg (by rw [hx]; omega)]; rfl
  · rw [getD_set _ _ _ _ (by rw [h.1]; omega), if_neg (by omega)]; exact h.2.2 j h1 h2
/-- The firsts and what is ahead, below the length l. -/
def FstAt (ls L : List Int) (l : Nat) : Prop := L.length = 48 ∧ (∀ j, j < 16 → L.getD j 0 = (cntW ls ls.length j : Int)) ∧ ∀ j, j < l → L.getD (16 + j) 0 = (first ls j : Int) ∧ L.getD (32 + j) 0 = (ahead ls j : Int)
theorem fstAt_one {ls L : List Int} (h : CntAt ls L ls.length) : FstAt ls L 1 := by
  refine ⟨h.1, h.2.1, fun j hj => ?_⟩
  obtain rfl : j = 0 := by omega
  exact ⟨h.2.2 16 (by omega) (by omega), h.2.2 32 (by omega) (by omega)⟩
theorem fstAt_next {ls L : List Int} {l : Nat} (h : FstAt ls L (l + 1)) (hl : l + 1 < 16) : FstAt ls ((L.set (16 + (l + 1)) (first ls (l + 1) : Int)).set (32 + (l + 1)) (ahead ls (l + 1) : Int)) (l + 2) := by
  have e1 : ∀ j, ((L.set (16 + (l + 1)) (first ls (l + 1) : Int)).set (32 + (l + 1)) (ahead ls (l + 1) : Int)).getD j 0 = if 32 + (l + 1) = j then (ahead ls (l + 1) : Int) else if 16 + (l + 1) = j then (first ls (l + 1) : Int) else L.getD j 0 := by
    intro j
    rw [getD_set _ _ _ _ (by rw [List.length_set, h.1]; omega), getD_set _ _ _ _ (by rw [h.1]; omega)]
  refine ⟨by rw [List.length_set, List.length_set]; exact h.1, fun j hj => ?_, fun j hj => ?_⟩
  · rw [e1, if_neg (by omega), if_neg (by omega)]; exact h.2.1 j hj
  · rw [e1, e1]
    by_cases e : j = l + 1
    · subst e
      rw [if_neg (by omega), if_pos rfl, if_pos rfl]
      exact ⟨rfl, rfl⟩
    · rw [if_neg (by omega), if_neg (by omega), if_neg (by omega), if_neg (by omega)]
      exact h.2.2 j (by omega)
theorem fstAt_all {ls L : List Int} (h : FstAt ls L 16) : L = wordsOf ls := words_eq ls L h.1 h.2.1 (fun l hl => (h.2.2 l hl).1) (fun l hl => (h.2.2 l hl).2)
end Go.Proofs.YthdblnfohbldcaaGreat.Huff
/-
  Rows of code words.
-/
namespace Go.Proofs.YthdblnfohbldcaaGreat.Huff
open Go.ChangeShapes Go.WideShapes Go.ChangeAt Go.RowKit
open Go.Proofs.YthdblnfohbldcaaGreat.Base
set_option linter.unusedVariables false
def cvals : List (Int × Nat) → List Value
  | [] => []
  | p :: cs => .int .i64 p.1 :: .int .u32 (p.2 : Int) :: cvals cs
theorem length_cvals (cs : List (Int × Nat)) : (cvals cs).length = cs.length * 2 := by
  induction cs with
  | nil => rfl
  | cons p cs ih => simp only [cvals, List.length_cons, ih]; omega
theorem cvals_len (cs : List (Int × Nat)) : ∀ k, k < cs.length → (cvals cs)[k * 2]? = some (.int .i64 (cs.getD k (0, 0)).1) ∧ (cvals cs)[k * 2 + 1]? = some (.int .u32 ((cs.getD k (0, 0)).2 : Int)) := by
  induction cs with
  | nil => intro k h; cases h
  | cons p cs ih =>
    intro k h
    cases k with
    | zero => exact ⟨rfl, rfl⟩
    | succ k =>
      have := ih k (by simpa using h)
      rw [show (k + 1) * 2 = k * 2 + 2 by omega]
      exact this
theorem cvals_set (cs : List (Int × Nat)) : ∀ k l (b : Nat), ((cvals cs).set (k * 2) (.int .i64 l)).set (k * 2 + 1) (.int .u32 (b : Int)) = cvals (cs.set k (l, b)) := by
  induction cs with
  | nil => intro k l b; rfl
  | cons p cs ih =>
    intro k l b
    cases k with
    | zero => rfl
    | succ k =>
      rw [show (k + 1) * 2 = k * 2 + 2 by omega]
      simp only [cvals, List.set_cons_succ]
      rw [ih k l b]
theorem cvals_append (a b : List (Int × Nat)) : cvals (a ++ b) = cvals a ++ cvals b := by
  induction a with
  | nil => rfl
  | cons p a ih => simp only [List.cons_append, cvals, ih]
theorem cvals_one (cs : List (Int × Nat)) : ∀ v ∈ cvals cs, v.oneCell' = true := by
  induction cs with
  | nil => intro v h; cases h
  | cons p cs ih =>
    intro v h
    simp only [cvals, List.mem_cons] at h
    rcases h with rfl | rfl | h
    · rfl
    · rfl
    · exact ih v h
/-- The slice v leads to a row of words of the call's own. -/
def OwnC (w : World) (base : Nat) (v : Value) (cs : List (Int × Nat)) : Prop := w.ownsRow base 163 2 v cs.length (cvals cs)
theorem OwnC.below {w w' : World} {base : Nat} {v : Value} {cs : List (Int × Nat)} (h : OwnC w base v cs) (hb : Below w.heap.size w w') : OwnC w' base v cs := by
  refine World.ownsRow.kept (row := none) h (below_grown hb) ?_
  cases hv : v.ownBlock with
  | none => exact .inl rfl
  | some k => exact .inr (by simp)
theorem OwnC.cells {w : World} {base g n cap : Nat} {cs : List (Int × Nat)} (h : OwnC w base (.slice (some ⟨g, 0, none⟩) n cap) cs) (hn : cs.length = n) (k : Nat) (hk : k < n) :
    w.cell? ⟨g, k * 2, none⟩ = some (.int .i64 (cs.getD k (0, 0)).1) ∧ w.cell? ⟨g, k * 2 + 1, none⟩ = some (.int .u32 ((cs.getD k (0, 0)).2 : Int)) := by
  subst hn
  obtain ⟨h1, h2⟩ := cvals_len cs k hk
  exact ⟨by rw [World.ownsRow.cellAt h (k * 2) (by omega)]; exact h1, by rw [World.ownsRow.cellAt h (k * 2 + 1) (by omega)]; exact h2⟩
theorem OwnC.frozen {w : World} {base g n cap : Nat} {cs : List (Int × Nat)} (h : OwnC w base (.slice (some ⟨g, 0, none⟩) n cap) cs) (hn : cs.length = n) (k : Nat) : w.frozen? ⟨g, k, none⟩ = false := by
  subst hn
  exact World.ownsRow.frozenAt h k
theorem OwnC.store {w : World} {base g n cap : Nat} {cs : List (Int × Nat)} (h : OwnC w base (.slice (some ⟨g, 0, none⟩) n cap) cs) (hn : cs.length = n) (k : Nat) (l : Int) (b : Nat) :
    OwnC ((w.setCell ⟨g, k * 2, none⟩ (.int .i64 l)).setCell ⟨g, k * 2 + 1, none⟩ (.int .u32 (b : Int))) base (.slice (some ⟨g, 0, none⟩) n cap) (cs.set k (l, b)) := by
  subst hn
  have := (World.ownsRow.stored (World.ownsRow.stored h (k * 2) (.int .i64 l)).1 (k * 2 + 1) (.int .u32 (b : Int))).1
  rw [cvals_set] at this
  unfold OwnC
  rw [List.length_set]
  exact this
theorem OwnC.shape {w : World} {base : Nat} {v : Value} {cs : List (Int × Nat)} (h : OwnC w base v cs) : ∃ a c, v = .slice a cs.length c := by
  rcases h.2 with ⟨h1, h2⟩ | ⟨g, c, cur, h1, _⟩
  · exact ⟨none, 0, by rw [h1, h2]⟩
  · exact ⟨_, c, h1⟩
theorem OwnC.some' {w : World} {base n c : Nat} {a : Option Addr} {cs : List (Int × Nat)} (h : OwnC w base (.slice a n c) cs) (hn : 0 < n) : ∃ g, a = some ⟨g, 0, none⟩ := by
  rcases h.2 with ⟨e, _⟩ | ⟨g, c', cur, e, _⟩
  · simp only [Value.slice.injEq] at e; omega
  · simp only [Value.slice.injEq] at e; exact ⟨g, e.1⟩
theorem ownC_none (w : World) (base : Nat) : OwnC w base (.slice none 0 0) [] := ⟨by simp [cvals], .inl ⟨rfl, rfl⟩⟩
theorem OwnC.mono {w : World} {base base' : Nat} {v : Value} {cs : List (Int × Nat)} (h : OwnC w base v cs) (hb : base' ≤ base) : OwnC w base' v cs := by
  obtain ⟨h1, h2⟩ := h
  refine ⟨h1, ?_⟩
  rcases h2 with h2 | ⟨g, cap, cur, e1, e2, e3⟩
  · exact .inl h2
  · exact .inr ⟨g, cap, cur, e1, Nat.le_trans hb e2, e3⟩
theorem ownC_keep {w w' : World} {base : Nat} {v : Value} {cs : List (Int × Nat)} {q : Option Nat} (h : OwnC w base v cs) (hg : w.grownBy w' q) (hne : ∀ i, v.ownBlock = some i → q ≠ some i) : OwnC w' base v cs := by
  refine World.ownsRow.kept (row := q) h hg ?_
  cases hv : v.ownBlock with
  | none => exact .inl rfl
  | some k => exact .inr (fun e => hne k hv e.symm)
theorem ownC_zero {w : World} {base g n : Nat} (h : w.ownsRow base 163 2 (.slice (some ⟨g, 0, none⟩) n n) n (madeCells #[Value.int .i64 0, .int .u32 0] (n * 2)).toList) : OwnC w base (.slice (some ⟨g, 0, none⟩) n n) (List.replicate n (0, 0)) := by
  have e : (madeCells #[Value.int .i64 0, .int .u32 0] (n * 2)).toList = cvals (List.replicate n (0, 0)) := by
    apply List.ext_getElem
    · rw [Array.length_toList, size_madeCells, length_cvals, List.length_replicate]
    · intro j h1 h2
      rw [length_cvals, List.length_replicate] at h2
      have hq := cvals_len (List.replicate n (0, 0)) (j / 2) (by rw [List.length_replicate]; omega)
      have hd : (List.replicate n ((0 : Int), (0 : Nat))).getD (j / 2) (0, 0) = (0, 0) := by
        rw [List.getD_eq_getElem?_getD, List.getElem?_replicate]; split <;> rfl
      rw [hd] at hq
      have hl2 : j < (cvals (List.replicate n ((0 : Int), (0 : Nat)))).length := by rw [length_cvals, List.length_replicate]; omega
      rcases Nat.mod_two_eq_zero_or_one j with hm | hm
      · have ej : j / 2 * 2 = j := by omega
        rw [ej, List.getElem?_eq_getElem hl2] at hq
        rw [Option.some.inj hq.1]
        simp [madeCells, hm]
      · have ej : j / 2 * 2 + 1 = j := by omega
        rw [ej, List.getElem?_eq_getElem hl2] at hq
        rw [Option.some.inj hq.2]
        simp [madeCells, hm]
  rw [e] at h
  unfold OwnC
  rw [List.length_replicate]
  exact h
/-- The words of lengths. -/
def codeAt (ls : List Int) (s : Nat) : Int × Nat := if ls.getD s 0 = 0 then (0, 0) else (ls.getD s 0, first ls (ls.getD s 0).toNat + cnt ls (ls.getD s 0).toNat s)
def codesTo (ls : List Int) (k : Nat) : List (Int × Nat) := (List.range ls.length).map fun s => if s < k then codeAt ls s else (0, 0)
def codesOf (ls : List Int) : List (Int × Nat) := (List.range ls.length).map (codeAt ls)
theorem codesTo_len (ls : List Int) (k : Nat) : (codesTo ls k).length = ls.length := by simp [codesTo]
theorem codesOf_len (ls : List Int) : (codesOf ls).length = ls.length := by simp [codesOf]
theorem codesTo_zero (ls : List Int) : codesTo ls 0 = List.replicate ls.length (0, 0) := by
  unfold codesTo
  apply List.ext_getElem
  · simp
  · intro j h1 h2; simp
theorem codesTo_all (ls : List Int) : codesTo ls ls.length = codesOf ls := by
  unfold codesTo codesOf
  apply List.map_congr_left
  intro s hs
  rw [if_pos (List.mem_range.1 hs)]
theorem codesTo_set (ls : List Int) (k : Nat) (h : k < ls.length) : (codesTo ls k).set k (codeAt ls k) = codesTo ls (k + 1) := by
  unfold codesTo
  apply List.ext_getElem
  · simp
  · intro j h1 h2
    rw [List.getElem_set]
    simp only [List.getElem_map, List.getElem_range]
    by_cases e : k = j
    · subst e; rw [if_pos rfl, if_pos (by omega)]
    · rw [if_neg e]
      by_cases hj : j < k
      · rw [if_pos hj, if_pos (by omega)]
      · rw [if_neg hj, if_neg (by omega)]
theorem codesTo_skip (ls : List Int) (k : Nat) (h : ls.getD k 0 = 0) : codesTo ls k = codesTo ls (k + 1) := by
  unfold codesTo
  apply List.map_congr_left
  intro s hs
  by_cases e : s = k
  · subst e
    rw [if_neg (by omega), if_pos (by omega)]
    unfold codeAt; rw [if_pos h]
  · by_cases hj : s < k
    · rw [if_pos hj, if_pos (by omega)]
    · rw [if_neg hj, if_neg (by omega)]
end Go.Proofs.YthdblnfohbldcaaGreat.Huff
/-
  Which symbol has a word: the one that stands so far behind the first of its length.
-/
namespace Go.Proofs.YthdblnfohbldcaaGreat.Huff
open Go.ChangeShapes Go.WideShapes Go.ChangeAt Go.RowKit
open Go.Proofs.YthdblnfohbldcaaGreat.Base
set_option linter.unusedVariables false
theorem cnt_hit (ls : List Int) (l : Nat) : ∀ k m, m < cnt ls l k → ∃ i, i < k ∧ ls.getD i 0 = (l : Int) ∧ cnt ls l i = m := by
  intro k
  induction k with
  | zero => intro m h; simp [cnt] at h
  | succ k ih =>
    intro m h
    simp only [cnt] at h
    by_cases e : ls.getD k 0 = (l : Int)
    · rw [if_pos e] at h
      by_cases hm : m < cnt ls l k
      · obtain ⟨i, h1, h2, h3⟩ := ih m hm
        exact ⟨i, by omega, h2, h3⟩
      · exact ⟨k, by omega, e, by omega⟩
    · rw [if_neg e] at h
      obtain ⟨i, h1, h2, h3⟩ := ih m (by omega)
      exact ⟨i, by omega, h2, h3⟩
theorem cnt_lt (ls : List Int) (l : Nat) {i k : Nat} (hi : i < k) (h : ls.getD i 0 = (l : Int)) : cnt ls l i < cnt ls l k := by
  have h1 := cnt_mono ls l (show i + 1 ≤ k by omega)
  simp only [cnt] at h1
  rw [if_pos h] at h1
  omega
theorem cnt_uniq (ls : List Int) (l : Nat) {i j : Nat} (hi : ls.getD i 0 = (l : Int)) (hj : ls.getD j 0 = (l : Int)) (h : cnt ls l i = cnt ls l j) : i = j := by
  rcases Nat.lt_trichotomy i j with q | q | q
  · have := cnt_lt ls l q hi; omega
  · exact q
  · have := cnt_lt ls l q hj; omega
/-- A symbol has the word N of length l just if it stands N - first behind the first of its length. -/
theorem code_iff (ls : List Int) (l N i : Nat) (hl : 0 < l) : codeAt ls i = ((l : Int), N) ↔ ls.getD i 0 = (l : Int) ∧ first ls l ≤ N ∧ cnt ls l i = N - first ls l := by
  unfold codeAt
  by_cases h0 : ls.getD i 0 = 0
  · rw [if_pos h0]
    constructor
    · intro h
      have := congrArg Prod.fst h
      simp only at this
      omega
    · intro h; omega
  · rw [if_neg h0]
    constructor
    · intro h
      have h1 := congrArg Prod.fst h
      have h2 := congrArg Prod.snd h
      simp only at h1 h2
      rw [h1, Int.toNat_natCast] at h2
      exact ⟨h1, by omega, by omega⟩
    · rintro ⟨h1, h2, h3⟩
      rw [h1, Int.toNat_natCast]
      congr 1
      omega
/-- Is there a word N of length l? -/
theorem word_there (ls : List Int) (l N : Nat) (hl : 0 < l) : (∃ i, i < ls.length ∧ codeAt ls i = ((l : Int), N)) ↔ first ls l ≤ N ∧ N < first ls l + cntW ls ls.length l := by
  have hw : cntW ls ls.length l = cnt ls l ls.length := by unfold cntW; rw [if_neg (by omega)]
  rw [hw]
  constructor
  · rintro ⟨i, hi, h⟩
    obtain ⟨h1, h2, h3⟩ := (code_iff ls l N i hl).1 h
    have := cnt_lt ls l hi h1
    omega
  · rintro ⟨h1, h2⟩
    obtain ⟨i, hi, h3, h4⟩ := cnt_hit ls l ls.length (N - first ls l) (by omega)
    exact ⟨i, hi, (code_iff ls l N i hl).2 ⟨h3, h1, h4⟩⟩
theorem word_one (ls : List Int) (l N : Nat) (hl : 0 < l) {i j : Nat} (hi : codeAt ls i = ((l : Int), N)) (hj : codeAt ls j = ((l : Int), N)) : i = j := by
  obtain ⟨a1, a2, a3⟩ := (code_iff ls l N i hl).1 hi
  obtain ⟨b1, b2, b3⟩ := (code_iff ls l N j hl).1 hj
  exact cnt_uniq ls l a1 b1 (by omega)
/-- A number that is no word of its length is behind the last one: so is the next length's number not ahead of the first one. -/
theorem next_first (ls : List Int) (l N b : Nat) (h : ¬ N < first ls l + cntW ls ls.length l) : first ls (l + 1) ≤ 2 * N + b := by
  simp only [first]
  omega
/-- The symbols in the order of their words: by length, then rising. -/
def placeOf (ls : List Int) (i : Nat) : Nat := ahead ls (ls.getD i 0).toNat + cnt ls (ls.getD i 0).toNat i
theorem ahead_mono (ls : List Int) {l m : Nat} (h : l ≤ m) : ahead ls l ≤ ahead ls m := by
  induction m with
  | zero => have : l = 0 := by omega
            subst this; exact Nat.le_refl _
  | succ m ih =>
    by_cases e : l = m + 1
    · subst e; exact Nat.le_refl _
    · simp only [ahead]; have := ih (by omega); omega
theorem place_lt (ls : List Int) (l i : Nat) (hl : 0 < l) (hi : i < ls.length) (h : ls.getD i 0 = (l : Int)) : placeOf ls i < ahead ls (l + 1) := by
  unfold placeOf
  rw [h, Int.toNat_natCast]
  have := cnt_lt ls l hi h
  simp only [ahead]
  unfold cntW
  rw [if_neg (by omega)]
  omega
theorem place_uniq (ls : List Int) {i j : Nat} (hi : i < ls.length) (hj : j < ls.length) {l m : Nat} (hl : 0 < l) (hm : 0 < m) (h1 : ls.getD i 0 = (l : Int)) (h2 : ls.getD j 0 = (m : Int)) (h : placeOf ls i = placeOf ls j) : i = j := by
  have p1 := place_lt ls l i hl hi h1
  have p2 := place_lt ls m j hm hj h2
  have q1 : ahead ls l ≤ placeOf ls i := by unfold placeOf; rw [h1, Int.toNat_natCast]; omega
  have q2 : ahead ls m ≤ placeOf ls j := by unfold placeOf; rw [h2, Int.toNat_natCast]; omega
  rcases Nat.lt_trichotomy l m with q | q | q
  · have := ahead_mono ls (show l + 1 ≤ m by omega); omega
  · subst q
    unfold placeOf at h
    rw [h1, h2, Int.toNat_natCast] at h
    exact cnt_uniq ls l h1 h2 (by omega)
  · have := ahead_mono ls (show m + 1 ≤ l by omega); omega
end Go.Proofs.YthdblnfohbldcaaGreat.Huff
/-
  What bytes tell by code words: the lengths at their head, then the words, bit by bit.
-/
namespace Go.Proofs.YthdblnfohbldcaaGreat.Huff
open Go.ChangeShapes Go.WideShapes Go.ChangeAt Go.RowKit
open Go.Proofs.YthdblnfohbldcaaGreat.Base
set_option linter.unusedVariables false
/-- The last length; of none it is -1. -/
def lastLen (ls : List Int) : Int := ls.getLast?.getD (-1)
theorem lastLen_nil : lastLen [] = -1 := rfl
theorem lastLen_app (ls : List Int) (n : Nat) (c : Int) (h : 0 < n) : lastLen (ls ++ List.replicate n c) = c := by
  obtain ⟨m, rfl⟩ : ∃ m, n = m + 1 := ⟨n - 1, by omega⟩
  unfold lastLen
  rw [List.replicate_succ', ← List.append_assoc, List.getLast?_append]
  simp
theorem lastLen_get (ls : List Int) (h : 0 < ls.length) : lastLen ls = ls.getD (ls.length - 1) 0 := by
  unfold lastLen
  rw [List.getLast?_eq_getElem?, List.getD_eq_getElem?_getD, List.getElem?_eq_getElem (by omega)]
  rfl
/-- The lengths that bytes begin with, behind those of ls, and what stands behind them. -/
def lensGo : Nat → List (BitVec 8) → List Int → Option (List Int × List (BitVec 8))
  | 0, _, _ => none
  | f + 1, b, ls =>
    if (Nums.get b).2.2 ≠ 0 ∨ 256 - ls.length < (Nums.get b).1 then none
    else if (Nums.get b).1 = 0 then (if lastLen ls = 0 then none else some (ls, b.drop (Nums.get b).2.1))
    else match b.drop (Nums.get b).2.1 with
      | [] => none
      | c :: cs => if 15 < c.toNat ∨ (c.toNat : Int) = lastLen ls then none else lensGo f cs (ls ++ List.replicate (Nums.get b).1 (c.toNat : Int))
def lensOf (b : List (BitVec 8)) : Option (List Int × List (BitVec 8)) := lensGo (b.length + 1) b []
theorem allIn_app {m : Int} {xs ys : List Int} (h1 : allIn m xs = true) (h2 : allIn m ys = true) : allIn m (xs ++ ys) = true := by
  unfold allIn at *
  rw [List.all_append, h1, h2]; rfl
theorem allIn_rep {m c : Int} (n : Nat) (h1 : 0 ≤ c) (h2 : c ≤ m) : allIn m (List.replicate n c) = true := by
  unfold allIn
  rw [List.all_eq_true]
  intro x hx
  rw [List.eq_of_mem_replicate hx]
  simp [h1, h2]
theorem lensGo_ok (f : Nat) : ∀ b ls ls' r, lensGo f b ls = some (ls', r) → allIn 15 ls = true → ls.length ≤ 256 → allIn 15 ls' = true ∧ ls'.length ≤ 256 ∧ r.length ≤ b.length := by
  induction f with
  | zero => intro b ls ls' r h; cases h
  | succ f ih =>
    intro b ls ls' r h h1 h2
    simp only [lensGo] at h
    split at h
    · cases h
    · rename_i hn
      split at h
      · split at h
        · cases h
        · cases h
          exact ⟨h1, h2, by rw [List.length_drop]; omega⟩
      · split at h
        · cases h
        · rename_i c cs hd
          split at h
          · cases h
          · rename_i hc
            have hlen := congrArg List.length hd
            rw [List.length_drop, List.length_cons] at hlen
            obtain ⟨q1, q2, q3⟩ := ih cs _ ls' r h (allIn_app h1 (allIn_rep _ (by omega) (by omega))) (by rw [List.length_append, List.length_replicate]; omega)
            exact ⟨q1, q2, by omega⟩
theorem lensOf_ok {b : List (BitVec 8)} {ls : List Int} {r : List (BitVec 8)} (h : lensOf b = some (ls, r)) : allIn 15 ls = true ∧ ls.length ≤ 256 ∧ r.length ≤ b.length :=
  lensGo_ok _ _ _ _ _ h rfl (by simp)
def bitAt (r : List (BitVec 8)) (i : Nat) : Nat := (r.getD (i / 8) 0).toNat / 2 ^ (i % 8) % 2
theorem bitAt_le (r : List (BitVec 8)) (i : Nat) : bitAt r i ≤ 1 := by unfold bitAt; omega
/-- The word that begins at a bit: its length and number. -/
def wordGo (ls : List Int) (r : List (BitVec 8)) : Nat → Nat → Nat → Nat → Option (Nat × Nat)
  | 0, _, _, _ => none
  | f + 1, i, l, N => if 8 * r.length ≤ i then none else
    if first ls l ≤ 2 * N + bitAt r i ∧ 2 * N + bitAt r i < first ls l + cntW ls ls.length l then some (l, 2 * N + bitAt r i) else wordGo ls r f (i + 1) (l + 1) (2 * N + bitAt r i)
def wordAt (ls : List Int) (r : List (BitVec 8)) (i : Nat) : Option (Nat × Nat) := wordGo ls r 15 i 1 0
theorem wordGo_ok (ls : List Int) (r : List (BitVec 8)) (f : Nat) : ∀ i l N l' N', wordGo ls r f i l N = some (l', N') → l ≤ l' ∧ l' < l + f ∧ i + (l' - l) < 8 * r.length ∧ first ls l' ≤ N' ∧ N' < first ls l' + cntW ls ls.length l' := by
  induction f with
  | zero => intro i l N l' N' h; cases h
  | succ f ih =>
    intro i l N l' N' h
    simp only [wordGo] at h
    split at h
    · cases h
    · split at h
      · rename_i h0 h1
        cases h
        exact ⟨by omega, by omega, by omega, h1.1, h1.2⟩
      · obtain ⟨q1, q2, q3, q4, q5⟩ := ih _ _ _ _ _ h
        exact ⟨by omega, by omega, by omega, q4, q5⟩
theorem wordAt_ok {ls : List Int} {r : List (BitVec 8)} {i l N : Nat} (h : wordAt ls r i = some (l, N)) : 1 ≤ l ∧ l ≤ 15 ∧ i + l ≤ 8 * r.length ∧ first ls l ≤ N ∧ N < first ls l + cntW ls ls.length l := by
  obtain ⟨q1, q2, q3, q4, q5⟩ := wordGo_ok ls r 15 i 1 0 l N h
  exact ⟨q1, by omega, by omega, q4, q5⟩
def symOf (ls : List Int) (l N : Nat) : Nat := ((List.range ls.length).find? fun i => decide (codeAt ls i = ((l : Int), N))).getD 0
theorem symOf_eq (ls : List Int) (l N i : Nat) (hl : 0 < l) (hi : i < ls.length) (h : codeAt ls i = ((l : Int), N)) : symOf ls l N = i := by
  unfold symOf
  cases hf : (List.range ls.length).find? (fun i => decide (codeAt ls i = ((l : Int), N))) with
  | none =>
    rw [List.find?_eq_none] at hf
    exact absurd h (by simpa using hf i (List.mem_range.2 hi))
  | some j =>
    have := List.find?_some hf
    simp only [decide_eq_true_eq] at this
    exact word_one ls l N hl this h
theorem symOf_there {ls : List Int} {l N : Nat} (hl : 0 < l) (h1 : first ls l ≤ N) (h2 : N < first ls l + cntW ls ls.length l) : symOf ls l N < ls.length ∧ codeAt ls (symOf ls l N) = ((l : Int), N) ∧ ls.getD (symOf ls l N) 0 = (l : Int) ∧ placeOf ls (symOf ls l N) = ahead ls l + (N - first ls l) := by
  obtain ⟨i, hi, h⟩ := (word_there ls l N hl).2 ⟨h1, h2⟩
  rw [symOf_eq ls l N i hl hi h]
  obtain ⟨q1, q2, q3⟩ := (code_iff ls l N i hl).1 h
  refine ⟨hi, h, q1, ?_⟩
  unfold placeOf
  rw [q1, Int.toNat_natCast, q3]
/-- The text of the first k words, and where the next one begins. -/
def textTo (ls : List Int) (r : List (BitVec 8)) : Nat → Option (List (BitVec 8) × Nat)
  | 0 => some ([], 0)
  | k + 1 => match textTo ls r k with
    | none => none
    | some (t, i) => match wordAt ls r i with
      | none => none
      | some (l, N) => some (t ++ [BitVec.ofNat 8 (symOf ls l N)], i + l)
theorem textTo_next {ls : List Int} {r : List (BitVec 8)} {k i l N : Nat} {t : List (BitVec 8)} (h : textTo ls r k = some (t, i)) (hw : wordAt ls r i = some (l, N)) : textTo ls r (k + 1) = some (t ++ [BitVec.ofNat 8 (symOf ls l N)], i + l) := by
  simp only [textTo, h, hw]
theorem textTo_none {ls : List Int} {r : List (BitVec 8)} {k : Nat} (h : textTo ls r k = none) : ∀ n, k ≤ n → textTo ls r n = none := by
  intro n
  induction n with
  | zero => intro hn; obtain rfl : k = 0 := by omega
            exact h
  | succ n ih =>
    intro hn
    by_cases e : k = n + 1
    · subst e; exact h
    · have := ih (by omega)
      simp only [textTo, this]
theorem textTo_stop {ls : List Int} {r : List (BitVec 8)} {k i n : Nat} {t : List (BitVec 8)} (h : textTo ls r k = some (t, i)) (hw : wordAt ls r i = none) (hn : k < n) : textTo ls r n = none :=
  textTo_none (k := k + 1) (by simp only [textTo, h, hw]) n (by omega)
theorem textTo_ok (ls : List Int) (r : List (BitVec 8)) : ∀ k t i, textTo ls r k = some (t, i) → t.length = k ∧ k ≤ i ∧ i ≤ 8 * r.length := by
  intro k
  induction k with
  | zero => intro t i h; cases h; exact ⟨rfl, by omega, by omega⟩
  | succ k ih =>
    intro t i h
    simp only [textTo] at h
    split at h
    · cases h
    · rename_i t0 i0 h0
      split at h
      · cases h
      · rename_i l N hw
        cases h
        obtain ⟨q1, q2, q3⟩ := ih t0 i0 h0
        obtain ⟨w1, w2, w3, _⟩ := wordAt_ok hw
        exact ⟨by rw [List.length_append]; simp; omega, by omega, by omega⟩
theorem textTo_far {ls : List Int} {r : List (BitVec 8)} {n : Nat} (h : 8 * r.length < n) : textTo ls r n = none := by
  cases e : textTo ls r n with
  | none => rfl
  | some p => obtain ⟨t, i⟩ := p; have := textTo_ok ls r n t i e; omega
/-- Nothing behind a bit but what fills the last byte. -/
def isEnd (r : List (BitVec 8)) (i : Nat) : Bool := decide (r.length = (i + 7) / 8 ∧ ∀ j, j < 8 * r.length → i ≤ j → bitAt r j = 0)
theorem bits8 : ∀ c : BitVec 8, ∀ k, k < 8 → (c.toNat / 2 ^ k = 0 ↔ ∀ j, j < 8 → k ≤ j → c.toNat / 2 ^ j % 2 = 0) := by decide +kernel
theorem isEnd_len {r : List (BitVec 8)} {i : Nat} (h : ¬ (i + 7) / 8 = r.length) : isEnd r i = false := by
  unfold isEnd; rw [decide_eq_false_iff_not]; intro q; exact h q.1.symm
theorem isEnd_full {r : List (BitVec 8)} {i : Nat} (h : (i + 7) / 8 = r.length) (h8 : i % 8 = 0) : isEnd r i = true := by
  unfold isEnd; rw [decide_eq_true_iff]; exact ⟨h.symm, fun j h1 h2 => by omega⟩
theorem isEnd_part {r : List (BitVec 8)} {i : Nat} (h : (i + 7) / 8 = r.length) (h8 : ¬ i % 8 = 0) : isEnd r i = decide ((r.getD (r.length - 1) 0).toNat / 2 ^ (i % 8) = 0) := by
  unfold isEnd
  have hb := bits8 (r.getD (r.length - 1) 0) (i % 8) (by omega)
  by_cases hz : (r.getD (r.length - 1) 0).toNat / 2 ^ (i % 8) = 0
  · rw [decide_eq_true hz, decide_eq_true_iff]
    refine ⟨h.symm, fun j h1 h2 => ?_⟩
    have := hb.1 hz (j % 8) (by omega) (by omega)
    unfold bitAt
    rw [show j / 8 = r.length - 1 by omega]
    exact this
  · rw [decide_eq_false hz, decide_eq_false_iff_not]
    rintro ⟨_, q⟩
    refine hz (hb.2 fun j h1 h2 => ?_)
    have := q (8 * (r.length - 1) + j) (by omega) (by omega)
    unfold bitAt at this
    rw [show (8 * (r.length - 1) + j) / 8 = r.length - 1 by omega, show (8 * (r.length - 1) + j) % 8 = j by omega] at this
    exact this
/-- What bytes tell of a text of n bytes, and the error. -/
def decoded (b : List (BitVec 8)) (n : Int) : List (BitVec 8) × Int :=
  if n < 0 ∨ 65536 < n then ([], 3) else
  match lensOf b with
  | none => ([], 40)
  | some (ls, r) => if right ls = false then ([], 40) else
    match textTo ls r n.toNat with
    | none => ([], 40)
    | some (t, i) => if isEnd r i = true then (t, 0) else ([], 40)
theorem decoded_len (b : List (BitVec 8)) (n : Int) : (decoded b n).1.length ≤ 65536 := by
  unfold decoded
  split
  · simp
  · split
    · simp
    · split
      · simp
      · split
        · simp
        · rename_i t i h
          split
          · have := textTo_ok _ _ _ _ _ h; show t.length ≤ _; omega
          · simp
end Go.Proofs.YthdblnfohbldcaaGreat.Huff
/-
  Bits of bytes: the document's bit, the end of the words, the program's reading of a word.
-/
namespace Go.Proofs.YthdblnfohbldcaaGreat.Huff
open Go.ChangeShapes Go.WideShapes Go.ChangeAt Go.RowKit
open Go.Proofs.YthdblnfohbldcaaGreat.Base
set_option linter.unusedVariables false
theorem bit_cast (c : BitVec 8) (k : Nat) : ((c.toNat : Int) / 2 ^ k) = ((c.toNat / 2 ^ k : Nat) : Int) := by simp
theorem bit_mod (c : BitVec 8) (k : Nat) : ((c.toNat : Int) / 2 ^ k) % 4294967296 % 2 = ((c.toNat / 2 ^ k % 2 : Nat) : Int) := by
  rw [bit_cast]
  have h1 := lt8 c
  have h2 : c.toNat / 2 ^ k ≤ c.toNat := Nat.div_le_self _ _
  generalize c.toNat / 2 ^ k = x at *
  omega
theorem ret_two {a b c d : Int} (h1 : a = c) (h2 : b = d) : Ending.returned (.tuple #[.int .i64 a, .int .i64 b]) = .returned (.tuple #[.int .i64 c, .int .i64 d]) := by rw [h1, h2]
set_option maxHeartbeats 1000000 in
theorem isEnd_any (a : Option Addr) (len cap : Nat) (r : List (BitVec 8)) (i : Nat) (w : World) (hr : Rd w a len r) (hi : i ≤ 8 * len) :
    Calls Tryz.prog 48 #[.slice a len cap, .int .i64 (i : Int)] w fun e w' => e = .returned (.bool (isEnd r i)) ∧ w' = w := by
  obtain ⟨hl, hm, hc⟩ := hr
  have hii : (i : Int) ≤ 1125899906842624 := by omega
  by_cases he : (i + 7) / 8 = r.length
  · have e1 : (((i : Int) + 7) / 8 != (len : Int)) = false := by rw [bne_eq_false_iff_eq]; omega
    by_cases h8 : i % 8 = 0
    · have HE := hide (isEnd_full he h8)
      have e2 : ((i : Int) % 8 == 0) = true := by rw [beq_iff_eq]; omega
      clear hc hl he h8
      go_enter Tryz.func48, Tryz.ntmps48
      go_wp2_with fail
      go_ret
      exact ⟨ret_bool HE.out.symm, rfl⟩
    · have HE := hide (isEnd_part he h8)
      have e2 : ((i : Int) % 8 == 0) = false := by rw [beq_eq_false_iff_ne]; omega
      obtain ⟨b1, o1, rfl, hb1, hc1⟩ := hc (by omega)
      obtain ⟨m, hm1⟩ : ∃ m, len = m + 1 := ⟨len - 1, by omega⟩
      subst hm1
      have g1 := hc1 m (by omega)
      rw [hl, Nat.add_sub_cancel] at HE
      obtain ⟨c, hcc⟩ : ∃ c, r.getD m 0 = c := ⟨_, rfl⟩
      rw [hcc] at g1 HE
      have e3 : ((m + 1 : Nat) : Int) - 1 = (m : Int) := by omega
      have e5 : (m : Int) < ((m + 1 : Nat) : Int) := by omega
      clear hc hc1 hl he h8 hcc
      go_enter Tryz.func48, Tryz.ntmps48
      go_wp2_with fail
      go_ret
      refine ⟨ret_bool ?_, rfl⟩
      rw [HE.out, bit_cast]
      generalize c.toNat / 2 ^ (i % 8) = x
      rw [Bool.eq_iff_iff, beq_iff_eq, decide_eq_true_iff]
      omega
  · have HE := hide (isEnd_len he)
    have e1 : (((i : Int) + 7) / 8 != (len : Int)) = true := by rw [bne_iff_ne]; omega
    clear hc hl he
    go_enter Tryz.func48, Tryz.ntmps48
    go_wp2_with fail
    go_ret
    exact ⟨ret_bool HE.out.symm, rfl⟩
theorem and_one (s : Nat) (h : s < 256) : bits .and .u8 (s : Int) 1 = ((s % 2 : Nat) : Int) := by
  have : (1 : Int) = ((1 : Nat) : Int) := rfl
  rw [this, u8_and_nat s 1 h (by omega)]
  congr 1
  exact Nat.and_one_is_mod s
set_option maxHeartbeats 1000000 in
set_option maxRecDepth 100000 in
theorem read_any (gw : Nat) (a : Option Addr) (len cap : Nat) (ls : List Int) (r : List (BitVec 8)) (i : Nat) (w : World) (hw : RowI 81 w gw (wordsOf ls)) (hr : Rd w a len r) (hi : i ≤ 8 * len) (hls : ls.length ≤ 256) :
    Calls Tryz.prog 47 #[.pointer (some ⟨gw, 0, none⟩), .slice a len cap, .int .i64 (i : Int)] w fun e w' => ∃ p s : Nat, e = .returned (.tuple #[.int .i64 (p : Int), .int .i64 (s : Int)]) ∧ (s = 0 ∧ wordAt ls r i = none ∨ 0 < s ∧ ∃ N, wordAt ls r i = some (s, N) ∧ p = ahead ls s + (N - first ls s)) ∧ w' = w := by
  have HL := hide hr.1
  have HC := hide hr.2.2
  have HW := hide hw
  have hm := hr.2.1
  have HI := hide hi
  have h8l : (len : Int) ≤ 140737488355328 := by omega
  clear hr hw hi
  go_enter Tryz.func47, Tryz.ntmps47
  go_wp2_with fail
  go_loop [2, 8, 9] (fun sa sn sl => ∃ l p N : Nat, 1 ≤ l ∧ l ≤ 16 ∧ sa = .int .i64 (p : Int) ∧ sn = .int .i64 (N : Int) ∧ sl = .int .i64 (l : Int) ∧ Hid (p + 1 = i + l ∧ p ≤ 8 * len ∧ N + 1 ≤ 2 ^ (l - 1) ∧ first ls l ≤ 2 * N ∧ wordGo ls r (16 - l) p l N = wordAt ls r i)) (fun _ _ sl => 16 - (intOf sl).toNat)
  case atStart => exact ⟨1, i, 0, by omega, by omega, rfl, rfl, rfl, rfl, HI.out, by simp, by simp [first, cntW], rfl⟩
  case round =>
    obtain ⟨l, p, N, hl1, hl2, rfl, rfl, rfl, H⟩ := hrel
    by_cases h16 : l < 16
    · have hl16 : (l : Int) < 16 := by omega
      by_cases hp : p < 8 * len
      · have hpi : (p : Int) < 8 * (len : Int) := by omega
        have hp2 : (p : Int) ≤ 1125899906842624 := by omega
        obtain ⟨b1, o1, rfl, hb1, hc1⟩ := HC.out (by omega)
        have g1 := hc1 (p / 8) (by omega)
        have h8 : (p : Int) / 8 < (len : Int) := by omega
        obtain ⟨c, hcc⟩ : ∃ c, r.getD (p / 8) 0 = c := ⟨_, rfl⟩
        rw [hcc] at g1
        obtain ⟨S, hS⟩ : ∃ S, c.toNat / 2 ^ (p % 8) = S := ⟨_, rfl⟩
        have hS2 : S < 256 := by have := Nat.div_le_self c.toNat (2 ^ (p % 8)); have := lt8 c; omega
        have s1 : (c.toNat : Int) / 2 ^ (p % 8) = (S : Int) := by rw [bit_cast, hS]
        obtain ⟨B, hB⟩ : ∃ B, S % 2 = B := ⟨_, rfl⟩
        have s2 : bits .and .u8 (S : Int) 1 = (B : Int) := by rw [and_one S hS2, hB]
        have hB1 : (B : Int) ≤ 1 := by omega
        have HBA : Hid (bitAt r p = B) := by show _ = _; unfold bitAt; rw [hcc, hS, hB]
        have hN : N ≤ 32768 := by
          have h := H.out.2.2.1
          have : 2 ^ (l - 1) ≤ 2 ^ 15 := Nat.pow_le_pow_right (by decide) (by omega)
          omega
        have hNi : (N : Int) ≤ 32768 := by omega
        have c1 := HW.out.cell l (by rw [wordsOf_len]; omega)
        have c2 := HW.out.cell (16 + l) (by rw [wordsOf_len]; omega)
        have c3 := HW.out.cell (32 + l) (by rw [wordsOf_len]; omega)
        rw [wordsOf_count ls l h16] at c1
        rw [wordsOf_first ls l h16] at c2
        rw [wordsOf_ahead ls l h16] at c3
        have hfl := first_le ls hls l
        have hcl := cntW_le ls ls.length l
        have hal := ahead_le ls hls l
        have hpw : 512 * 2 ^ l ≤ 512 * 2 ^ 15 := Nat.mul_le_mul_left _ (Nat.pow_le_pow_right (by decide) (by omega))
        have HWG : Hid (wordAt ls r i = if first ls l ≤ 2 * N + B ∧ 2 * N + B < first ls l + cntW ls ls.length l then some (l, 2 * N + B) else wordGo ls r (16 - (l + 1)) (p + 1) (l + 1) (2 * N + B)) := by
          show _ = _
          rw [← H.out.2.2.2.2, show 16 - l = (16 - (l + 1)) + 1 by omega]
          simp only [wordGo]
          rw [if_neg (by rw [HL.out]; omega), HBA.out]
        have HF1 : Hid (first ls (l + 1) = 2 * (first ls l + cntW ls ls.length l)) := rfl
        have HF := hide H.out.2.2.2.1
        have HA : Hid (ahead ls l = ahead ls l) := rfl
        obtain ⟨F, hF⟩ : ∃ F, first ls l = F := ⟨_, rfl⟩
        obtain ⟨C, hC⟩ : ∃ C, cntW ls ls.length l = C := ⟨_, rfl⟩
        obtain ⟨A, hA⟩ : ∃ A, ahead ls l = A := ⟨_, rfl⟩
        have HFE := hide hF
        have HAE := hide hA
        rw [hF] at c2 hfl HWG HF1 HF
        rw [hC] at c1 hcl HWG HF1
        rw [hA] at c3 hal
        have hFi : (F : Int) ≤ 16777216 := by omega
        have hCi : (C : Int) ≤ 256 := by omega
        have hAi : (A : Int) ≤ 4096 := by omega
        have HFM : Hid (F ≤ 2 * N + B) := by have := HF.out; show _ ≤ _; omega
        clear hc1 hcc hS hB hF hC hA hfl hcl hal hpw HA
        by_cases hlt : 2 * N + B < F + C
        · have HW2 : Hid (wordAt ls r i = some (l, 2 * N + B)) := by show _ = _; rw [HWG.out, if_pos ⟨HFM.out, hlt⟩]
          have hlt2 : 2 * (N : Int) + (B : Int) - (F : Int) < (C : Int) := by omega
          clear hlt
          go_wp2_with fail
          go_ret2
          refine ⟨A + (2 * N + B - F), l, ?_, .inr ⟨by omega, _, HW2.out, by rw [HAE.out, HFE.out]⟩, rfl⟩
          have := HFM.out
          exact ret_two (by omega) rfl
        · have HW2 : Hid (wordGo ls r (16 - (l + 1)) (p + 1) (l + 1) (2 * N + B) = wordAt ls r i) := by show _ = _; rw [HWG.out, if_neg (fun h => hlt h.2)]
          have hlt2 : ¬ 2 * (N : Int) + (B : Int) - (F : Int) < (C : Int) := by omega
          have HFX : Hid (F + C ≤ 2 * N + B) := by show _ ≤ _; omega
          clear hlt
          go_wp2_with fail
          go_round
          case rel =>
            refine ⟨l + 1, p + 1, 2 * N + B, by omega, by omega, by go_num, by go_num, by go_num, by have := H.out.1; omega, by omega, ?_, by rw [HF1.out]; have := HFX.out; omega, HW2.out⟩
            have h := H.out.2.2.1
            obtain ⟨q, hq⟩ : ∃ q, l = q + 1 := ⟨l - 1, by omega⟩
            subst hq
            rw [Nat.add_sub_cancel] at h ⊢
            rw [Nat.pow_succ]
            omega
          case measure => simp [intOf]; omega
      · have hpi : ¬ (p : Int) < 8 * (len : Int) := by omega
        have HW2 : Hid (wordAt ls r i = none) := by
          show _ = _
          rw [← H.out.2.2.2.2, show 16 - l = (16 - (l + 1)) + 1 by omega]
          simp only [wordGo]
          rw [if_pos (by rw [HL.out]; omega)]
        go_wp2_with fail
        go_ret2
        exact ⟨0, 0, rfl, .inl ⟨rfl, HW2.out⟩, rfl⟩
    · obtain rfl : l = 16 := by omega
      have HW2 : Hid (wordAt ls r i = none) := by show _ = _; rw [← H.out.2.2.2.2]; rfl
      go_wp2_with fail
      go_ret2
      exact ⟨0, 0, rfl, .inl ⟨rfl, HW2.out⟩, rfl⟩
end Go.Proofs.YthdblnfohbldcaaGreat.Huff
/-
  newWords: the three rows of any lengths that may be.
-/
namespace Go.Proofs.YthdblnfohbldcaaGreat.Huff
open Go.ChangeShapes Go.WideShapes Go.ChangeAt Go.RowKit
open Go.Proofs.YthdblnfohbldcaaGreat.Base
set_option linter.unusedVariables false
theorem ivals_one (xs : List Int) : ∀ v ∈ ivals xs, v.oneCell' = true := by
  intro v hv
  simp only [ivals, List.mem_map] at hv
  obtain ⟨x, _, rfl⟩ := hv
  rfl
theorem row_range {t : TypeId} {w : World} {g : Nat} {xs : List Int} (h : RowI t w g xs) (o n : Nat) (hn : o + n ≤ xs.length) : w.rangeAt g o (ivals ((xs.drop o).take n)) := by
  intro j v hv
  have hj : j < n := by
    have := List.getElem?_eq_some_iff.1 hv
    obtain ⟨h1, _⟩ := this
    rw [length_ivals, List.length_take] at h1
    omega
  rw [h.cell (o + j) (by omega)]
  rw [getD_ivals _ j (by rw [List.length_take, List.length_drop]; omega)] at hv
  rw [← hv, List.getD_eq_getElem?_getD, List.getD_eq_getElem?_getD, List.getElem?_take, if_pos hj, List.getElem?_drop]
theorem row_range0 {t : TypeId} {w : World} {g : Nat} {xs : List Int} (h : RowI t w g xs) : w.rangeAt g 0 (ivals xs) := by
  have := row_range h 0 xs.length (by omega)
  rwa [List.drop_zero, List.take_length] at this
theorem row_there {t : TypeId} {w : World} {g : Nat} {xs : List Int} (h : RowI t w g xs) (o n : Nat) (hn : o + n ≤ xs.length) : w.there g o n := by
  intro j hj
  rw [h.cell (o + j) (by omega)]
  exact ⟨rfl, h.frozen _⟩
theorem setCells_grown {w0 : World} {b : Nat} : ∀ (vs : List Value) (o : Nat) (w : World), w0.grownBy w (some b) → w0.grownBy (w.setCells b o vs) (some b)
  | [], _, _, h => h
  | v :: vs, o, w, h => setCells_grown vs (o + 1) (w.setCell ⟨b, o, none⟩ v) (grown_cell h o v)
/-- A whole row is written over. -/
theorem row_setCells {t : TypeId} {w : World} {g : Nat} : ∀ (ys xs : List Int) (o : Nat), RowI t w g xs → o + ys.length ≤ xs.length → RowI t (w.setCells g o (ivals ys)) g (xs.take o ++ ys ++ xs.drop (o + ys.length)) := by
  intro ys
  induction ys generalizing w with
  | nil => intro xs o h _; simpa [ivals, World.setCells] using h
  | cons y ys ih =>
    intro xs o h hl
    rw [List.length_cons] at hl
    have h1 := ih (xs.set o y) (o + 1) (h.store o y) (by rw [List.length_set]; omega)
    have e : (xs.set o y).take (o + 1) ++ ys ++ (xs.set o y).drop (o + 1 + ys.length) = xs.take o ++ (y :: ys) ++ xs.drop (o + (y :: ys).length) := by
      rw [List.drop_set, if_pos (by omega), List.take_set, List.take_succ_eq_append_getElem (by omega), List.set_append_right _ _ (by rw [List.length_take]; omega), List.length_take, Nat.min_eq_left (by omega), Nat.sub_self, List.set_cons_zero, List.length_cons, show o + (ys.length + 1) = o + 1 + ys.length by omega]
      simp
    rw [e] at h1
    exact h1
theorem row_setAll {t : TypeId} {w : World} {g : Nat} {xs ys : List Int} (h : RowI t w g xs) (hl : ys.length = xs.length) : RowI t (w.setCells g 0 (ivals ys)) g ys := by
  have := row_setCells ys xs 0 h (by omega)
  rw [List.take_zero, List.nil_append, Nat.zero_add, hl, List.drop_length, List.append_nil] at this
  exact this
theorem results_mid2 {P : Program} {fn : Func} {p q : Tmp} {ty : TypeId} (h : fn.results = #[.cell p ty, .tmp q]) (tmps : Array Value) (w : World) (g : Nat) (cs : List Value) (d : TypeDesc) (v : Value)
    (hp : tmps.getD p undef = .pointer (some ⟨g, 0, none⟩)) (hq : tmps.getD q undef = v) (hc : w.rangeAt g 0 cs) (hu : P.underlying ty = some d) (hd : d.isRow = true) (hi : (P.info? ty).map (·.size) = some cs.length) :
    (results fn tmps).run P w = .ok (.tuple #[.agg cs.toArray, v]) w := by
  have hp' : tmps[p]?.getD undef = .pointer (some ⟨g, 0, none⟩) := by simpa using hp
  have hq' : tmps[q]?.getD undef = v := by simpa using hq
  simp [results, h, hp', hq', asAddr, run_loadVar_mid w g 0 ty cs d hc hu hd hi]
theorem info48 : (Tryz.prog.info? 81).map (·.size) = some 48 := by kernel_rfl
def Z48 : Array Value := (ivals (List.replicate 48 0)).toArray
theorem z48 : #[Value.int .i64 0, Value.int .i64 0, Value.int .i64 0, Value.int .i64 0, Value.int .i64 0, Value.int .i64 0, Value.int .i64 0, Value.int .i64 0, Value.int .i64 0, Value.int .i64 0, Value.int .i64 0, Value.int .i64 0, Value.int .i64 0, Value.int .i64 0, Value.int .i64 0, Value.int .i64 0, Value.int .i64 0, Value.int .i64 0, Value.int .i64 0, Value.int .i64 0, Value.int .i64 0, Value.int .i64 0, Value.int .i64 0, Value.int .i64 0, Value.int .i64 0, Value.int .i64 0, Value.int .i64 0, Value.int .i64 0, Value.int .i64 0, Value.int .i64 0, Value.int .i64 0, Value.int .i64 0, Value.int .i64 0, Value.int .i64 0, Value.int .i64 0, Value.int .i64 0, Value.int .i64 0, Value.int .i64 0, Value.int .i64 0, Value.int .i64 0, Value.int .i64 0, Value.int .i64 0, Value.int .i64 0, Value.int .i64 0, Value.int .i64 0, Value.int .i64 0, Value.int .i64 0, Value.int .i64 0] = Z48 := by rfl
set_option maxHeartbeats 1000000 in
set_option maxRecDepth 100000 in
theorem newWords_any (a : Option Addr) (len cap : Nat) (ls : List Int) (w : World) (hr : RdI w a len ls) (hl : len ≤ 256) (hin : allIn 15 ls = true) :
    Calls Tryz.prog 45 #[.slice a len cap] w fun e w' => e = .returned (.tuple #[.agg (ivals (wordsOf ls)).toArray, .bool (right ls)]) ∧ Below w.heap.size w w' := by
  obtain ⟨h1, hm, h3⟩ := hr
  have HL := hide h1
  have HC := hide h3
  have HIN := hide (fun k h => allIn_get hin k h)
  clear h1 h3 hin
  have hli : (len : Int) ≤ 256 := by omega
  have HN : Hid (RowI 81 (w.alloc (.cells Z48 81)) w.heap.size (List.replicate 48 0)) := rowi_new _ _ _
  have HB0 : Hid (Below w.heap.size w (w.alloc (.cells Z48 81))) := (Below.refl _ _).alloc (Nat.le_refl _) _
  go_enter Tryz.func45, Tryz.ntmps45
  go_wp2_with fail
  rw [z48]
  generalize Z48 = Z at HN HB0
  obtain ⟨g, hg⟩ : ∃ g, w.heap.size = g := ⟨_, rfl⟩
  rw [hg] at HN ⊢
  have HG : Hid (w.heap.size = g) := hg
  clear hg
  go_loopw [10] (fun i wr => ∃ (k : Nat) (L : List Int), k ≤ len ∧ i = .int .i64 (k : Int) ∧ Hid (CntAt ls L k) ∧ Hid (RowI 81 wr g L) ∧ Hid (Below w.heap.size w wr)) (fun i _ => len - (intOf i).toNat)
  case atStart => exact ⟨0, _, Nat.zero_le _, rfl, cntAt_zero ls, HN, HB0⟩
  case round =>
    clear HN HB0
    obtain ⟨k, L, hk, rfl, HCA, HR, HB⟩ := hrel
    by_cases hlt : k < len
    · obtain ⟨b1, o1, rfl, hb1, hc1⟩ := unhide HC (by omega)
      have g1 := hc1 k hlt
      have hx := HIN.out k (by have := HL.out; omega)
      rw [← HB.out.cell (p := ⟨b1, o1 + k, none⟩) hb1] at g1
      clear hc1
      have hki : (k : Int) < (len : Int) := by omega
      obtain ⟨x, hxe⟩ : ∃ x, ls.getD k 0 = x := ⟨_, rfl⟩
      rw [hxe] at g1 hx
      by_cases hp : 0 < x
      · obtain ⟨q, hq⟩ : ∃ q : Nat, x = (q : Int) := ⟨x.toNat, by omega⟩
        subst hq
        have HCI := hide (cntAt_inc HCA.out hxe (by omega) (by omega))
        have g2 := HR.out.cell q (by rw [HCA.out.1]; omega)
        rw [HCA.out.2.1 q (by omega)] at g2
        have hcl := cntW_le ls k q
        generalize cntW ls k q = c at g2 hcl HCI
        have hci : (c : Int) ≤ 256 := by omega
        have f2 := HR.out.frozen q
        have hq1 : (q : Int) < 16 := by omega
        have hq0 : 0 < (q : Int) := hp
        have HX := hide hxe
        clear hxe hx hp
        go_wp2_with fail
        go_roundw
        case rel => exact ⟨k + 1, _, by omega, by go_num, HCI, HR.out.store q _, HB.out.setCell (Nat.le_of_eq HG.out) _⟩
        case measure => simp [intOf]; omega
      · obtain rfl : x = 0 := by omega
        have HCI := hide (cntAt_skip HCA.out hxe)
        clear hxe hx hp
        go_wp2_with fail
        go_roundw
        case rel => exact ⟨k + 1, L, by omega, by go_num, HCI, HR, HB⟩
        case measure => simp [intOf]; omega
    · obtain rfl : k = len := by omega
      have HF1 : Hid (FstAt ls L 1) := fstAt_one (by rw [HL.out]; exact HCA.out)
      clear HCA hlt
      go_wp2_with fail
      go_loopw [6] (fun i wz => ∃ (m l : Nat) (L : List Int), m ≤ 16 ∧ Hid (m = l + 1) ∧ i = .int .i64 (m : Int) ∧ Hid (FstAt ls L (l + 1)) ∧ Hid (RowI 81 wz g L) ∧ Hid (Below w.heap.size w wz)) (fun i _ => 16 - (intOf i).toNat)
      case atStart => exact ⟨1, 0, L, by omega, rfl, rfl, HF1, HR, HB⟩
      case round =>
        clear HR HB HF1
        obtain ⟨m, l, L, hl1, HML, rfl, HF, HR, HB⟩ := hrel
        by_cases hlt : m < 16
        · have hlm : l + 1 = m := HML.out.symm
          have HNX := hide (fstAt_next HF.out (by omega))
          have g1 := HR.out.cell (16 + l) (by rw [HF.out.1]; omega)
          have g2 := HR.out.cell (32 + l) (by rw [HF.out.1]; omega)
          have g3 := HR.out.cell l (by rw [HF.out.1]; omega)
          have g4 := HR.out.cell (16 + m) (by rw [HF.out.1]; omega)
          have g5 := HR.out.cell (32 + m) (by rw [HF.out.1]; omega)
          have f4 := HR.out.frozen (16 + m)
          have f5 := HR.out.frozen (32 + m)
          rw [(HF.out.2.2 l (by omega)).1] at g1
          rw [(HF.out.2.2 l (by omega)).2] at g2
          rw [HF.out.2.1 l (by omega)] at g3
          generalize L.getD (16 + m) 0 = X4 at g4
          generalize L.getD (32 + m) 0 = X5 at g5
          have b1 := first_le ls (by rw [HL.out]; exact hl) l
          have b2 := ahead_le ls (by rw [HL.out]; exact hl) l
          have b3 := cntW_le ls ls.length l
          have b4 : 512 * 2 ^ l ≤ 512 * 2 ^ 15 := Nat.mul_le_mul_left _ (Nat.pow_le_pow_right (by decide) (by omega))
          have Q1 : first ls (l + 1) = 2 * (first ls l + cntW ls ls.length l) := rfl
          have Q2 : ahead ls (l + 1) = ahead ls l + cntW ls ls.length l := rfl
          rw [HL.out] at b3 g3 Q1 Q2
          rw [hlm] at HNX Q1 Q2
          generalize first ls m = F2 at HNX Q1
          generalize ahead ls m = A2 at HNX Q2
          generalize first ls l = F at g1 b1 Q1
          generalize ahead ls l = A at g2 b2 Q2
          generalize cntW ls k l = C at g3 b3 Q1 Q2
          obtain ⟨T, hT⟩ : ∃ T : Nat, T = F + C := ⟨_, rfl⟩
          have w0 : IntKind.i64.wrap ((m : Int) - 1) = (l : Int) := by rw [IntKind.wrap_i64]; omega
          have w1 : IntKind.i64.wrap ((F : Int) + (C : Int)) = (T : Int) := by rw [IntKind.wrap_i64]; omega
          have w2 : IntKind.i64.wrap (2 * (T : Int)) = (F2 : Int) := by rw [IntKind.wrap_i64]; omega
          have w3 : IntKind.i64.wrap ((A : Int) + (C : Int)) = (A2 : Int) := by rw [IntKind.wrap_i64]; omega
          have hmi : (m : Int) < 16 := by omega
          have hli2 : (l : Int) < 16 := by omega
          have w00 : IntKind.i64.wrap (l : Int) = (l : Int) := by rw [IntKind.wrap_i64]; omega
          have hln : l < 16 := by omega
          have hmn : m < 16 := by omega
          have hd1 : decide ((l : Int) < 16) = true := by rw [decide_eq_true_iff]; exact hli2
          have hd2 : decide ((m : Int) < 16) = true := by rw [decide_eq_true_iff]; exact hmi
          have hd3 : decide ((l : Int) < 0) = false := by rw [decide_eq_false_iff_not]; omega
          have hd4 : decide ((m : Int) < 0) = false := by rw [decide_eq_false_iff_not]; omega
          have hne1 : l ≠ m := by omega
          have hne2 : l ≠ 16 + m := by omega
          have hne3 : 32 + l ≠ 16 + m := by omega
          have HHLM := hide hlm
          have HR1 := hide (HR.out.store (16 + m) (F2 : Int))
          have HL1 : Hid ((L.set (16 + m) (F2 : Int)).length = 48) := by show _ = _; rw [List.length_set]; exact HF.out.1
          have c1 := HR1.out.cell (16 + l) (by rw [HL1.out]; omega)
          have c2 := HR1.out.cell (32 + l) (by rw [HL1.out]; omega)
          have c3 := HR1.out.cell l (by rw [HL1.out]; omega)
          have c5 := HR1.out.cell (32 + m) (by rw [HL1.out]; omega)
          have f6 := HR1.out.frozen (32 + m)
          rw [getD_set _ _ _ _ (by rw [HF.out.1]; omega), if_neg (by omega)] at c1 c2 c3 c5
          have e1 := HR.out.cell (16 + l) (by rw [HF.out.1]; omega)
          have e2 := HR.out.cell (32 + l) (by rw [HF.out.1]; omega)
          have e3 := HR.out.cell l (by rw [HF.out.1]; omega)
          have e5 := HR.out.cell (32 + m) (by rw [HF.out.1]; omega)
          rw [← e1, g1] at c1
          rw [← e2, g2] at c2
          rw [← e3, g3] at c3
          rw [← e5, g5] at c5
          have HR2 := hide (HR1.out.store (32 + m) (A2 : Int))
          have HL2 : Hid (((L.set (16 + m) (F2 : Int)).set (32 + m) (A2 : Int)).length = 48) := by show _ = _; rw [List.length_set, List.length_set]; exact HF.out.1
          have c6 := HR2.out.cell (32 + l) (by rw [HL2.out]; omega)
          have c7 := HR2.out.cell l (by rw [HL2.out]; omega)
          rw [getD_set _ _ _ _ (by rw [HL1.out]; omega), if_neg (by omega), getD_set _ _ _ _ (by rw [HF.out.1]; omega), if_neg (by omega)] at c6 c7
          rw [← e2, g2] at c6
          rw [← e3, g3] at c7
          clear b1 b2 b3 b4 Q1 Q2 hT hlm hlt e1 e2 e3 e5
          go_wp2_with fail
          go_region_held (fun V => V.cell? ⟨g, 16 + l, none⟩ = some (.int .i64 (F : Int)) ∧ V.cell? ⟨g, l, none⟩ = some (.int .i64 (C : Int))) (first | go_keep | exact ⟨c1, c3⟩) (fail)
          go_wp2_with fail
          go_region_held (fun V => V.cell? ⟨g, 32 + l, none⟩ = some (.int .i64 (A : Int)) ∧ V.cell? ⟨g, l, none⟩ = some (.int .i64 (C : Int))) (first | go_keep | exact ⟨c6, c7⟩ | exact ⟨c2, c3⟩) (fail)
          have HD : Hid (RowI 81 ((wr.setCell ⟨g, 16 + m, none⟩ (.int .i64 (F2 : Int))).setCell ⟨g, 32 + m, none⟩ (.int .i64 (A2 : Int))).drew.drew g ((L.set (16 + m) (F2 : Int)).set (32 + m) (A2 : Int))) := (HR2.out.below (Below.refl _ _).drew).below (Below.refl _ _).drew
          have HBD : Hid (Below w.heap.size w ((wr.setCell ⟨g, 16 + m, none⟩ (.int .i64 (F2 : Int))).setCell ⟨g, 32 + m, none⟩ (.int .i64 (A2 : Int))).drew.drew) := ((HB.out.setCell (Nat.le_of_eq HG.out) _).setCell (Nat.le_of_eq HG.out) _).drew.drew
          have HFN : Hid (FstAt ls ((L.set (16 + m) (F2 : Int)).set (32 + m) (A2 : Int)) (m + 1)) := by
            have h := HNX.out
            rw [show l + 2 = m + 1 by have := HHLM.out; omega] at h
            exact h
          have hm15 : m ≤ 15 := by omega
          go_wp2_with fail
          go_roundw
          case rel => exact ⟨m + 1, m, _, by omega, rfl, by go_num, HFN, HD, HBD⟩
          case measure => simp [intOf]; omega
        · obtain rfl : m = 16 := by omega
          have HFW : Hid (L = wordsOf ls) := fstAt_all (by have := HML.out; have h := HF.out; rw [show l + 1 = 16 by omega] at h; exact h)
          have g1 := HR.out.cell 31 (by rw [HF.out.1]; omega)
          have g2 := HR.out.cell 15 (by rw [HF.out.1]; omega)
          rw [HFW.out, show (31 : Nat) = 16 + 15 by rfl, wordsOf_first ls 15 (by omega)] at g1
          rw [HFW.out, wordsOf_count ls 15 (by omega)] at g2
          have b1 := first_le ls (by rw [HL.out]; exact hl) 15
          have b3 := cntW_le ls ls.length 15
          rw [HL.out] at b3
          have HRT : Hid (right ls = decide (first ls 15 + cntW ls ls.length 15 ≤ 32768)) := rfl
          rw [HL.out] at g2 HRT
          generalize first ls 15 = F at g1 b1 HRT
          generalize cntW ls k 15 = C at g2 b3 HRT
          obtain ⟨T, hT⟩ : ∃ T : Nat, T = F + C := ⟨_, rfl⟩
          rw [← hT] at HRT
          have b4 : (F : Int) ≤ 16777216 := by omega
          have b5 : (C : Int) ≤ 256 := by omega
          have b6 : (F : Int) + (C : Int) = (T : Int) := by omega
          have HRR : Hid (decide ((T : Int) ≤ 32768) = right ls) := by
            show _ = _
            rw [HRT.out]
            exact decide_eq_decide.2 (by omega)
          have u8 := Tryz.underlying81
          rw [HFW.out] at HR
          have HRG := hide (row_range0 HR.out)
          have HLW := hide (wordsOf_len ls)
          have HLI : Hid ((ivals (wordsOf ls)).length = 48) := by show _ = _; rw [length_ivals]; exact HLW.out
          have HONE := hide (ivals_one (wordsOf ls))
          have HTH := hide (row_there HR.out 0 48 (by rw [HLW.out]; omega))
          have HRS := hide (row_setAll HR.out (ys := wordsOf ls) rfl)
          have HRG2 := hide (row_range0 HRS.out)
          have HGB : Hid (Below w.heap.size w (wr.setCells g 0 (ivals (wordsOf ls)))) := HB.out.grown (setCells_grown _ _ _ (World.grownBy.refl _ _)) HB.out.size (fun i e => by have h := Option.some.inj e; have := HG.out; omega)
          obtain ⟨V, hV⟩ : ∃ V, ivals (wordsOf ls) = V := ⟨_, rfl⟩
          rw [hV] at HRG HLI HONE HRS HRG2 HGB
          have HVE := hide hV
          clear hV
          have I1 : Hid ((Tryz.prog.info? 81).map (·.size) = some V.length) := by show _ = _; rw [HLI.out]; exact info48
          have I2 : Hid ((Tryz.prog.info? 81).map (·.size) = some V.toArray.size) := by show _ = _; rw [List.size_toArray, HLI.out]; exact info48
          have HTH2 : Hid (wr.there g 0 V.toArray.size) := by show World.there _ _ _ _; rw [List.size_toArray, HLI.out]; exact HTH.out
          clear b1 b3 hT HRT HTH HRS
          go_wp2_with (first
            | (refine wpList_load_mid rfl 81 (.tmp 2) rfl g 0 rfl V _ HRG.out u8 rfl I1.out ?_)
            | (refine wpList_store_mid rfl 81 (.tmp 2) (.tmp 64) rfl g 0 V.toArray rfl rfl HTH2.out I2.out (all_oneCell_toArray HONE.out) ?_))
          refine bodyPost_ret (v := .tuple #[.agg V.toArray, .bool (decide ((T : Int) ≤ 32768))]) (results_mid2 Tryz.results45 _ _ g V _ _ (by rfl) (by rfl) HRG2.out u8 rfl I1.out) (by rfl) ⟨?_, HGB.out⟩
          rw [HVE.out, HRR.out]
end Go.Proofs.YthdblnfohbldcaaGreat.Huff
/-
  The lengths at the head of bytes: the program's reading.
-/
namespace Go.Proofs.YthdblnfohbldcaaGreat.Huff
open Go.ChangeShapes Go.WideShapes Go.ChangeAt Go.RowKit
open Go.Proofs.YthdblnfohbldcaaGreat.Base
set_option linter.unusedVariables false
def slen : Value → Nat
  | .slice _ n _ => n
  | _ => 0
/-- What a reading of the number at the head says. -/
theorem get_says (R : List (BitVec 8)) : (Nums.get R).2.2 = 0 ∧ 1 ≤ (Nums.get R).2.1 ∧ (Nums.get R).2.1 ≤ R.length ∧ (Nums.get R).1 ≤ 9223372036854775807 ∨ (Nums.get R).2.2 ≠ 0 := by
  rcases Nums.get_cases R with ⟨u, m, h, h1, h2, h3, h4, h5⟩ | ⟨h, _⟩ | ⟨h, _⟩
  · left; rw [h]; exact ⟨rfl, h1, h3, by show u ≤ _; omega⟩
  · right; rw [h]; decide
  · right; rw [h]; decide
/-- What has been read so far: the rest R, the lengths ls. -/
def LState (bs R : List (BitVec 8)) (ls : List Int) : Prop := (∃ f, R.length < f ∧ lensGo f R ls = lensOf bs) ∧ ls.length ≤ 256
theorem lstate_start (bs : List (BitVec 8)) : LState bs bs [] := ⟨⟨bs.length + 1, by omega, rfl⟩, by simp⟩
theorem lstate_bad {bs R : List (BitVec 8)} {ls : List Int} (h : LState bs R ls) (hb : (Nums.get R).2.2 ≠ 0 ∨ 256 - ls.length < (Nums.get R).1) : lensOf bs = none := by
  obtain ⟨⟨f, hf, h⟩, _⟩ := h
  obtain ⟨m, rfl⟩ : ∃ m, f = m + 1 := ⟨f - 1, by omega⟩
  rw [← h]; simp only [lensGo]; rw [if_pos hb]
theorem lstate_end {bs R : List (BitVec 8)} {ls : List Int} (h : LState bs R ls) (h0 : (Nums.get R).2.2 = 0) (h1 : (Nums.get R).1 = 0) : lensOf bs = if lastLen ls = 0 then none else some (ls, R.drop (Nums.get R).2.1) := by
  obtain ⟨⟨f, hf, h⟩, _⟩ := h
  obtain ⟨m, rfl⟩ : ∃ m, f = m + 1 := ⟨f - 1, by omega⟩
  rw [← h]; simp only [lensGo]; rw [if_neg (by omega), if_pos h1]
theorem lstate_stop {bs R : List (BitVec 8)} {ls : List Int} (h : LState bs R ls) (h0 : (Nums.get R).1 ≠ 0) (h1 : R.drop (Nums.get R).2.1 = []) : lensOf bs = none := by
  obtain ⟨⟨f, hf, h⟩, _⟩ := h
  obtain ⟨m, rfl⟩ : ∃ m, f = m + 1 := ⟨f - 1, by omega⟩
  rw [← h]; simp only [lensGo]
  split
  · rfl
  · first | rw [if_neg h0, h1] | rw [h1]
theorem lstate_wrong {bs R cs : List (BitVec 8)} {c : BitVec 8} {ls : List Int} (h : LState bs R ls) (h0 : (Nums.get R).1 ≠ 0) (h1 : R.drop (Nums.get R).2.1 = c :: cs) (h2 : 15 < c.toNat ∨ (c.toNat : Int) = lastLen ls) : lensOf bs = none := by
  obtain ⟨⟨f, hf, h⟩, _⟩ := h
  obtain ⟨m, rfl⟩ : ∃ m, f = m + 1 := ⟨f - 1, by omega⟩
  rw [← h]; simp only [lensGo]
  split
  · rfl
  · first | (rw [if_neg h0, h1]; simp only []; rw [if_pos h2]) | (rw [h1]; simp only []; rw [if_pos h2])
theorem lstate_next {bs R cs : List (BitVec 8)} {c : BitVec 8} {ls : List Int} (h : LState bs R ls) (hg : (Nums.get R).2.2 = 0) (hl : (Nums.get R).1 ≤ 256 - ls.length) (h0 : (Nums.get R).1 ≠ 0) (h1 : R.drop (Nums.get R).2.1 = c :: cs) (h2 : ¬ 15 < c.toNat) (h3 : ¬ (c.toNat : Int) = lastLen ls) : LState bs cs (ls ++ List.replicate (Nums.get R).1 (c.toNat : Int)) := by
  obtain ⟨⟨f, hf, h⟩, hn⟩ := h
  obtain ⟨m, rfl⟩ : ∃ m, f = m + 1 := ⟨f - 1, by omega⟩
  have hlen := congrArg List.length h1
  rw [List.length_drop, List.length_cons] at hlen
  refine ⟨⟨m, by omega, ?_⟩, by rw [List.length_append, List.length_replicate]; omega⟩
  rw [← h]; simp only [lensGo]
  rw [if_neg (by omega), if_neg h0, h1]
  simp only []
  rw [if_neg (by omega)]
theorem rep_snoc (ls : List Int) (j : Nat) (c : Int) : ls ++ List.replicate j c ++ [c] = ls ++ List.replicate (j + 1) c := by rw [List.append_assoc, ← List.replicate_succ']
theorem blkI {w : World} {base : Nat} {v : Value} {xs : List Int} (h : OwnI w base v xs) : ∀ q, v.ownBlock = some q → base ≤ q := fun q e => (h.lt q e).1
set_option maxHeartbeats 2000000 in
set_option maxRecDepth 100000 in
theorem lengths_any (a : Option Addr) (len cap : Nat) (bs : List (BitVec 8)) (w : World) (hr : Rd w a len bs) (hcap : len ≤ cap) (hm : cap ≤ 9223372036854775807) :
    Calls Tryz.prog 44 #[.slice a len cap] w fun e w' => ∃ (v1 v2 : Value) (ok : Bool), e = .returned (.tuple #[v1, v2, .bool ok]) ∧ Below w.heap.size w w' ∧ (ok = false ∧ lensOf bs = none ∨ ok = true ∧ ∃ ls r a1 c1 a2 l2 c2, lensOf bs = some (ls, r) ∧ v1 = .slice a1 ls.length c1 ∧ OwnI w' w.heap.size v1 ls ∧ v2 = .slice a2 l2 c2 ∧ Rd w a2 l2 r ∧ l2 ≤ c2 ∧ c2 ≤ cap) := by
  have HR := hide hr
  have HCAP := hide hcap
  clear hr hcap
  go_enter Tryz.func44, Tryz.ntmps44
  go_wp2_with fail
  go_loopw [0, 2, 5] (fun sb sl st wr => ∃ (pa : Option Addr) (pl pc : Nat) (R : List (BitVec 8)) (la : Option Addr) (ln lc : Nat) (ls : List Int) (T : Int), sb = .slice pa pl pc ∧ sl = .slice la ln lc ∧ st = .int .i64 T ∧ ln ≤ 256 ∧ -1 ≤ T ∧ T ≤ 15 ∧ Hid (Rd w pa pl R ∧ pl ≤ pc ∧ pc ≤ cap ∧ LState bs R ls ∧ lastLen ls = T ∧ ls.length = ln ∧ OwnI wr w.heap.size (.slice la ln lc) ls ∧ Below w.heap.size w wr)) (fun sb _ _ _ => slen sb)
  case atStart => exact ⟨a, len, cap, bs, none, 0, 0, [], -1, rfl, rfl, rfl, by omega, by omega, by omega, HR.out, HCAP.out, Nat.le_refl _, lstate_start bs, rfl, rfl, ownI_none _ _, Below.refl _ _⟩
  case round =>
    obtain ⟨pa, pl, pc, R, la, ln, lc, ls, T, rfl, rfl, rfl, hln, hT1, hT2, H⟩ := hrel
    have hsz : w.heap.size ≤ wr.heap.size := H.out.2.2.2.2.2.2.2.size
    have hlni : (ln : Int) ≤ 256 := by omega
    have HGET := hide (Nums.get_any pa pl pc R wr (H.out.1.below H.out.2.2.2.2.2.2.2) H.out.2.1 (by have := H.out.2.2.1; omega))
    have HS := hide (get_says R)
    have HBAD := hide (lstate_bad H.out.2.2.2.1)
    have HEND := hide (lstate_end H.out.2.2.2.1)
    have HSTP := hide (lstate_stop H.out.2.2.2.1)
    have HWRG := hide (fun c cs => lstate_wrong (c := c) (cs := cs) H.out.2.2.2.1)
    have HNXT := hide (fun c cs => lstate_next (c := c) (cs := cs) H.out.2.2.2.1)
    obtain ⟨rn, hrn⟩ : ∃ rn, (Nums.get R).1 = rn := ⟨_, rfl⟩
    obtain ⟨sz, hszz⟩ : ∃ sz, (Nums.get R).2.1 = sz := ⟨_, rfl⟩
    obtain ⟨er, her⟩ : ∃ er, (Nums.get R).2.2 = er := ⟨_, rfl⟩
    simp only [hrn, hszz, her] at HGET HS HBAD HEND HSTP HWRG HNXT
    clear hrn hszz her
    have HLN := hide H.out.2.2.2.2.2.1
    have HRL := hide H.out.1.1
    by_cases h0 : er = 0
    · subst h0
      rw [show ((0 : Nat) : Int) = 0 from rfl] at HGET
      obtain ⟨s1, s2, s3⟩ : 1 ≤ sz ∧ sz ≤ pl ∧ rn ≤ 9223372036854775807 := by
        rcases HS.out with ⟨_, q1, q2, q3⟩ | q
        · rw [HRL.out] at q2; exact ⟨q1, q2, q3⟩
        · exact absurd rfl q
      obtain ⟨b1, o1, hpa, hb1, _⟩ := H.out.1.2.2 (by omega)
      subst hpa
      obtain ⟨la2, hcut, hla, hsp, hbl⟩ := cut_l b1 o1 pl pc sz s2 H.out.2.1
      have HRP : Hid (Rd w (some la2) (pl - sz) (R.drop sz)) := H.out.1.past sz s2 la2 hla
      have HLA := hide hla
      obtain ⟨pr, hpr⟩ : ∃ pr, pl - sz = pr := ⟨_, rfl⟩
      obtain ⟨pd, hpd⟩ : ∃ pd, pc - sz = pd := ⟨_, rfl⟩
      have HPR : Hid (pl = sz + pr ∧ pc = sz + pd ∧ pr ≤ pd ∧ pc ≤ cap) := by have h1 := H.out.2.1; have h2 := H.out.2.2.1; exact ⟨by omega, by omega, by omega, h2⟩
      rw [hpr] at HRP
      rw [hpr, hpd] at hcut
      clear hpr hpd hla hsp hbl
      by_cases hgt : 256 - ln < rn
      · have HN := hide (HBAD.out (.inr (by rw [HLN.out]; exact hgt)))
        have hgt1 : 256 - (ln : Int) < (rn : Int) := by omega
        clear HBAD HEND HSTP HWRG HNXT hgt
        go_wp2_with (go_at_call 90; refine HGET.out.mono ?_; rintro e w1 ⟨rfl, hb1⟩; have HB1 := hide (below_trans H.out.2.2.2.2.2.2.2 hb1); have HB01 := hide hb1; clear hb1)
        go_ret3
        exact ⟨_, _, false, rfl, HB1.out, .inl ⟨rfl, HN.out⟩⟩
      have hgt1 : ¬ 256 - (ln : Int) < (rn : Int) := by omega
      have hrnb : rn ≤ 256 := by omega
      by_cases hr0 : rn = 0
      · subst hr0
        rw [show ((0 : Nat) : Int) = 0 from rfl] at HGET
        have HE := hide (HEND.out rfl rfl)
        have hgt2 : ¬ 256 - (ln : Int) < 0 := by omega
        clear HBAD HEND HSTP HWRG HNXT hgt hgt1
        by_cases hT : T = 0
        · subst hT
          have HN : Hid (lensOf bs = none) := by show _ = _; rw [HE.out, if_pos H.out.2.2.2.2.1]
          go_wp2_with (go_at_call 90; refine HGET.out.mono ?_; rintro e w1 ⟨rfl, hb1⟩; have HB1 := hide (below_trans H.out.2.2.2.2.2.2.2 hb1); have HB01 := hide hb1; clear hb1)
          go_ret3
          exact ⟨_, _, false, rfl, HB1.out, .inl ⟨rfl, HN.out⟩⟩
        · have HN : Hid (lensOf bs = some (ls, R.drop sz)) := by show _ = _; rw [HE.out, if_neg (by rw [H.out.2.2.2.2.1]; exact hT)]
          have hTb : (T != 0) = true := by rw [bne_iff_ne]; exact hT
          clear hT
          go_wp2_with (go_at_call 90; refine HGET.out.mono ?_; rintro e w1 ⟨rfl, hb1⟩; have HB1 := hide (below_trans H.out.2.2.2.2.2.2.2 hb1); have HB01 := hide hb1; clear hb1)
          go_ret3
          refine ⟨.slice la ln lc, .slice (some la2) pr pd, true, rfl, HB1.out, .inr ⟨rfl, ls, R.drop sz, la, lc, some la2, pr, pd, HN.out, ?_, H.out.2.2.2.2.2.2.1.below HB01.out, rfl, HRP.out, ?_, ?_⟩⟩
          · rw [HLN.out]
          · exact HPR.out.2.2.1
          · have h1 := HPR.out.2.1; have h2 := HPR.out.2.2.2; omega
      have hr0i : ((rn : Int) == 0) = false := by rw [beq_eq_false_iff_ne]; omega
      by_cases hp0 : pr = 0
      · subst hp0
        have HN := hide (HSTP.out hr0 (List.length_eq_zero_iff.1 HRP.out.1))
        clear HBAD HEND HSTP HWRG HNXT hgt
        go_wp2_with (go_at_call 90; refine HGET.out.mono ?_; rintro e w1 ⟨rfl, hb1⟩; have HB1 := hide (below_trans H.out.2.2.2.2.2.2.2 hb1); have HB01 := hide hb1; clear hb1)
        go_ret3
        exact ⟨_, _, false, rfl, HB1.out, .inl ⟨rfl, HN.out⟩⟩
      have hp0i : ((pr : Int) == 0) = false := by rw [beq_eq_false_iff_ne]; omega
      obtain rfl : la2 = ⟨b1, o1 + sz, none⟩ := HLA.out (by have := HPR.out.1; omega)
      obtain ⟨c, cs, hcs⟩ : ∃ c cs, R.drop sz = c :: cs := by
        cases h : R.drop sz with
        | nil => have := HRP.out.1; rw [h] at this; simp at this; omega
        | cons c cs => exact ⟨c, cs, rfl⟩
      have HCS := hide hcs
      rw [hcs] at HRP
      have HCELL : Hid (∀ W : World, Below w.heap.size w W → W.cell? ⟨b1, o1 + sz, none⟩ = some (.int .u8 (c.toNat : Int))) := by
        show ∀ W : World, _
        intro W hW
        rw [hW.cell (p := ⟨b1, o1 + sz, none⟩) hb1]
        obtain ⟨b', o', e', _, hc'⟩ := HRP.out.2.2 (by omega)
        cases e'
        exact hc' 0 (by omega)
      have hpri : (0 : Int) < (pr : Int) := by omega
      have hc8 := lt8 c
      have hc8i : (c.toNat : Int) < 256 := by omega
      clear hcs HBAD HEND HSTP HLA
      by_cases hc1 : 15 < c.toNat
      · have HN := hide (HWRG.out c cs hr0 HCS.out (.inl hc1))
        have hc1i : 15 < (c.toNat : Int) := by omega
        clear HWRG HNXT hgt
        go_wp2_with (go_at_call 90; refine HGET.out.mono ?_; rintro e w1 ⟨rfl, hb1⟩; have HB1 := hide (below_trans H.out.2.2.2.2.2.2.2 hb1); have HB01 := hide hb1; have g1 : w1.cell? ⟨b1, o1 + sz, none⟩ = some (.int .u8 (c.toNat : Int)) := HCELL.out w1 HB1.out; clear hb1)
        go_ret3
        exact ⟨_, _, false, rfl, HB1.out, .inl ⟨rfl, HN.out⟩⟩
      have hc1i : ¬ 15 < (c.toNat : Int) := by omega
      by_cases hc2 : (c.toNat : Int) = T
      · have HN := hide (HWRG.out c cs hr0 HCS.out (.inr (by rw [H.out.2.2.2.2.1]; exact hc2)))
        have hc2i : ((c.toNat : Int) == T) = true := by rw [beq_iff_eq]; exact hc2
        clear HWRG HNXT hgt hc2
        go_wp2_with (go_at_call 90; refine HGET.out.mono ?_; rintro e w1 ⟨rfl, hb1⟩; have HB1 := hide (below_trans H.out.2.2.2.2.2.2.2 hb1); have HB01 := hide hb1; have g1 : w1.cell? ⟨b1, o1 + sz, none⟩ = some (.int .u8 (c.toNat : Int)) := HCELL.out w1 HB1.out; clear hb1)
        go_ret3
        exact ⟨_, _, false, rfl, HB1.out, .inl ⟨rfl, HN.out⟩⟩
      have hc2i : ((c.toNat : Int) == T) = false := by rw [beq_eq_false_iff_ne]; exact hc2
      have HNX := hide (HNXT.out c cs rfl (by rw [HLN.out]; omega) hr0 HCS.out hc1 (by rw [H.out.2.2.2.2.1]; exact hc2))
      obtain ⟨la3, hcut3, hla3, hsp3, hbl3⟩ := cut_l b1 (o1 + sz) pr pd 1 (by omega) HPR.out.2.2.1
      have HRQ : Hid (Rd w (some la3) (pr - 1) cs) := HRP.out.past 1 (by omega) la3 hla3
      have HPQ : Hid (pr - 1 ≤ pd - 1 ∧ pd - 1 ≤ cap ∧ pr - 1 < pl) := by have h1 := HPR.out; exact ⟨by omega, by omega, by omega⟩
      rw [show ((1 : Nat) : Int) = 1 from rfl] at hcut3
      have hrni : (rn : Int) ≤ 256 := by omega
      have HCP := hide hr0
      clear HWRG HNXT hgt hc2 hla3 hsp3 hbl3
      go_wp2_with (go_at_call 90; refine HGET.out.mono ?_; rintro e w1 ⟨rfl, hb1⟩; have HB1 := hide (below_trans H.out.2.2.2.2.2.2.2 hb1); have HB01 := hide hb1; have g1 : w1.cell? ⟨b1, o1 + sz, none⟩ = some (.int .u8 (c.toNat : Int)) := HCELL.out w1 HB1.out; clear hb1)
      have hs1 : w.heap.size ≤ w1.heap.size := HB1.out.size
      have HOW1 := hide (H.out.2.2.2.2.2.2.1.below HB01.out)
      go_loopw [2, 57] (fun sl i wz => ∃ (j : Nat) (va : Option Addr) (vc : Nat), j ≤ rn ∧ i = .int .i64 (j : Int) ∧ sl = .slice va (ln + j) vc ∧ Hid (OwnI wz w.heap.size (.slice va (ln + j) vc) (ls ++ List.replicate j (c.toNat : Int)) ∧ Below w.heap.size w wz)) (fun _ i _ => rn - (intOf i).toNat)
      case atStart => exact ⟨0, la, lc, Nat.zero_le _, rfl, rfl, by simpa using HOW1.out, HB1.out⟩
      case round =>
        clear HOW1
        obtain ⟨j, va, vc, hj, rfl, rfl, HOV⟩ := hrel
        have hji : (j : Int) ≤ 256 := by omega
        by_cases hlt2 : (j : Int) < (rn : Int)
        · have HOA := hide (HOV.out.1.below ((Below.refl wr.heap.size wr).alloc (Nat.le_refl _) (.cells #[.int .i64 (c.toNat : Int)] 3)))
          have hsr : w.heap.size ≤ wr.heap.size := HOV.out.2.size
          go_wp2_with (at_builtin; refine pushI _ rfl _ _ rfl w.heap.size _ _ rfl HOA.out ⟨wr.heap.size, 0, none⟩ 1 (c.toNat : Int) rfl (cell_one_new _ _ _ 0 _ rfl) (by rw [List.length_append, List.length_replicate, HLN.out]; omega) (by simp; omega) ?_
                       intro v9 w9 ho9 hg9
                       rw [rep_snoc] at ho9
                       obtain ⟨va9, vc9, rfl⟩ := ho9.shape
                       have hq9 : (ls ++ List.replicate (j + 1) (c.toNat : Int)).length = ln + (j + 1) := by rw [List.length_append, List.length_replicate, HLN.out]
                       rw [hq9] at ho9 ⊢
                       have HOV9 : Hid (OwnI w9 w.heap.size (.slice va9 (ln + (j + 1)) vc9) (ls ++ List.replicate (j + 1) (c.toNat : Int)) ∧ Below w.heap.size w w9) := ⟨ho9, (HOV.out.2.alloc hsr _).grown hg9 (by simp; omega) (blkI HOV.out.1)⟩
                       clear ho9 hg9 hq9)
          go_roundw
          case rel => exact ⟨j + 1, va9, vc9, by omega, by go_num, rfl, HOV9⟩
          case measure => simp [intOf]; omega
        · obtain rfl : j = rn := by omega
          go_wp2_with fail
          go_roundw
          case rel => exact ⟨some la3, pr - 1, pd - 1, cs, va, ln + j, vc, _, (c.toNat : Int), rfl, rfl, rfl, by omega, by omega, by omega, HRQ.out, HPQ.out.1, HPQ.out.2.1, HNX.out, lastLen_app ls j _ (by have := HCP.out; omega), by rw [List.length_append, List.length_replicate, HLN.out], HOV.out.1, HOV.out.2⟩
          case measure => simp [slen]; have := HPQ.out.2.2; omega
    · have HN := hide (HBAD.out (.inl h0))
      have h0i : ((er : Int) != 0) = true := by rw [bne_iff_ne]; omega
      clear HBAD HEND HSTP HWRG HNXT HS
      go_wp2_with (go_at_call 90; refine HGET.out.mono ?_; rintro e w1 ⟨rfl, hb1⟩; have HB1 := hide (below_trans H.out.2.2.2.2.2.2.2 hb1); have HB01 := hide hb1; clear hb1)
      go_ret3
      exact ⟨_, _, false, rfl, HB1.out, .inl ⟨rfl, HN.out⟩⟩
end Go.Proofs.YthdblnfohbldcaaGreat.Huff
/-
  Packages in memory: a weight and 256 numbers; rows of them.
-/
namespace Go.Proofs.YthdblnfohbldcaaGreat.Pm
open Go.ChangeShapes Go.WideShapes Go.ChangeAt Go.RowKit
open Go.Proofs.YthdblnfohbldcaaGreat.Base
set_option linter.unusedVariables false
/-- The cells of a package; K: what its numbers are. -/
def pcells (K : IntKind) (p : Pk) : List Value := .int .i64 (p.1 : Int) :: p.2.map fun (t : Nat) => Value.int K (t : Int)
def lcells (K : IntKind) (ps : List Pk) : List Value := ps.flatMap (pcells K)
theorem pcells_len (K : IntKind) {p : Pk} (h : p.2.length = 256) : (pcells K p).length = 257 := by simp [pcells, h]
theorem pcells_one (K : IntKind) (p : Pk) : ∀ v ∈ pcells K p, v.oneCell' = true := by
  intro v hv
  simp only [pcells, List.mem_cons, List.mem_map] at hv
  rcases hv with rfl | ⟨t, _, rfl⟩ <;> rfl
theorem lcells_one (K : IntKind) (ps : List Pk) : ∀ v ∈ lcells K ps, v.oneCell' = true := by
  intro v hv
  simp only [lcells, List.mem_flatMap] at hv
  obtain ⟨p, _, h⟩ := hv
  exact pcells_one K p v h
theorem pcells_w (K : IntKind) (p : Pk) : (pcells K p)[0]? = some (.int .i64 (p.1 : Int)) := rfl
theorem pcells_t (K : IntKind) (p : Pk) (s : Nat) (h : s < p.2.length) : (pcells K p)[1 + s]? = some (.int K ((p.2.getD s 0 : Nat) : Int)) := by
  rw [pcells, Nat.add_comm 1 s, List.getElem?_cons_succ, List.getElem?_map, List.getElem?_eq_getElem h, List.getD_eq_getElem?_getD, List.getElem?_eq_getElem h]; rfl
theorem lcells_cons (K : IntKind) (p : Pk) (ps : List Pk) : lcells K (p :: ps) = pcells K p ++ lcells K ps := rfl
theorem lcells_append (K : IntKind) (ps qs : List Pk) : lcells K (ps ++ qs) = lcells K ps ++ lcells K qs := by simp [lcells]
theorem lcells_len (K : IntKind) : ∀ {ps : List Pk}, Wide 256 ps → (lcells K ps).length = ps.length * 257
  | [], _ => rfl
  | p :: ps, h => by
    rw [lcells_cons, List.length_append, pcells_len K (h p (by simp)), lcells_len K (ps := ps) (fun q hq => h q (by simp [hq])), List.length_cons]; omega
theorem lcells_get (K : IntKind) : ∀ {ps : List Pk}, Wide 256 ps → ∀ i, i < ps.length → ∀ j, j < 257 → (lcells K ps)[i * 257 + j]? = (pcells K (ps.getD i (0, [])))[j]?
  | [], _, i, h, _, _ => by simp at h
  | p :: ps, hw, 0, _, j, hj => by
    rw [lcells_cons, Nat.zero_mul, Nat.zero_add, List.getElem?_append_left (by rw [pcells_len K (hw p (by simp))]; exact hj)]; rfl
  | p :: ps, hw, i + 1, h, j, hj => by
    have hl := pcells_len K (hw p (by simp))
    rw [lcells_cons, List.getElem?_append_right (by omega), hl, show (i + 1) * 257 + j - 257 = i * 257 + j by omega, lcells_get K (ps := ps) (fun q hq => hw q (by simp [hq])) i (by simpa using h) j hj]
    rfl
/-- The slice 'a, len' reads as the packages 'ps'. -/
def RdP (K : IntKind) (w : World) (a : Option Addr) (len : Nat) (ps : List Pk) : Prop :=
  ps.length = len ∧ Wide 256 ps ∧ (0 < len → ∃ b off, a = some ⟨b, off, none⟩ ∧ b < w.heap.size ∧ w.rangeAt b off (lcells K ps))
theorem rdp_zero (K : IntKind) (w : World) (a : Option Addr) : RdP K w a 0 [] := ⟨rfl, by simp [Wide], fun h => absurd h (by omega)⟩
theorem range_below {w w' : World} {b o : Nat} {cs : List Value} (h : w.rangeAt b o cs) (hb : Below w.heap.size w w') (hlt : b < w.heap.size) : w'.rangeAt b o cs := fun j v hv => by
  rw [hb.cell (p := ⟨b, o + j, none⟩) hlt]; exact h j v hv
theorem range_grown {w w' : World} {b o : Nat} {cs : List Value} {r : Option Nat} (h : w.rangeAt b o cs) (hg : w.grownBy w' r) (hne : r ≠ some b) : w'.rangeAt b o cs := fun j v hv =>
  hg.cell (h j v hv) (fun e => hne e.symm)
theorem RdP.below {K : IntKind} {w w' : World} {a : Option Addr} {len : Nat} {ps : List Pk} (h : RdP K w a len ps) (hb : Below w.heap.size w w') : RdP K w' a len ps := by
  obtain ⟨h1, h2, h3⟩ := h
  refine ⟨h1, h2, fun hp => ?_⟩
  obtain ⟨b, off, rfl, hlt, hc⟩ := h3 hp
  exact ⟨b, off, rfl, Nat.lt_of_lt_of_le hlt hb.size, range_below hc hb hlt⟩
theorem range_sub {w : World} {b o : Nat} {cs ds : List Value} {k : Nat} (h : w.rangeAt b o cs) (hd : ∀ j, j < ds.length → cs[k + j]? = ds[j]?) : w.rangeAt b (o + k) ds := fun j v hv => by
  have hj : j < ds.length := (List.getElem?_eq_some_iff.1 hv).1
  rw [Nat.add_assoc]
  exact h (k + j) v (by rw [hd j hj]; exact hv)
/-- One of them. -/
theorem range_one {K : IntKind} {w : World} {b off : Nat} {ps : List Pk} (h : w.rangeAt b off (lcells K ps)) (hw : Wide 256 ps) (i : Nat) (hi : i < ps.length) : w.rangeAt b (off + i * 257) (pcells K (ps.getD i (0, []))) := by
  have hm : ps.getD i (0, []) ∈ ps := by rw [List.getD_eq_getElem?_getD, List.getElem?_eq_getElem hi]; exact List.getElem_mem hi
  refine range_sub h fun j hj => ?_
  rw [pcells_len K (hw _ hm)] at hj
  exact lcells_get K hw i hi j hj
theorem wide_get {n : Nat} {ps : List Pk} (hw : Wide n ps) (i : Nat) (hi : i < ps.length) : (ps.getD i (0, [])).2.length = n := by
  have hm : ps.getD i (0, []) ∈ ps := by rw [List.getD_eq_getElem?_getD, List.getElem?_eq_getElem hi]; exact List.getElem_mem hi
  exact hw _ hm
theorem lcells_drop (K : IntKind) : ∀ {ps : List Pk}, Wide 256 ps → ∀ i, i ≤ ps.length → (lcells K ps).drop (i * 257) = lcells K (ps.drop i)
  | [], _, i, h => by
    have : i = 0 := by simpa using h
    subst this; simp [lcells]
  | p :: ps, hw, 0, _ => by simp
  | p :: ps, hw, i + 1, h => by
    have hl := pcells_len K (hw p (by simp))
    rw [lcells_cons, List.drop_succ_cons, show (i + 1) * 257 = (pcells K p).length + i * 257 by omega, ← List.drop_drop, List.drop_left, lcells_drop K (ps := ps) (fun q hq => hw q (by simp [hq])) i (by simpa using h)]
theorem lcells_take (K : IntKind) : ∀ {ps : List Pk}, Wide 256 ps → ∀ i, i ≤ ps.length → (lcells K ps).take (i * 257) = lcells K (ps.take i)
  | [], _, i, h => by
    have : i = 0 := by simpa using h
    subst this; simp [lcells]
  | p :: ps, hw, 0, _ => by simp [lcells]
  | p :: ps, hw, i + 1, h => by
    have hl := pcells_len K (hw p (by simp))
    rw [lcells_cons, List.take_succ_cons, lcells_cons, show (i + 1) * 257 = (pcells K p).length + i * 257 by omega, List.take_length_add_append, lcells_take K (ps := ps) (fun q hq => hw q (by simp [hq])) i (by simpa using h)]
theorem wide_drop {n : Nat} {ps : List Pk} (h : Wide n ps) (i : Nat) : Wide n (ps.drop i) := fun p hp => h p (List.mem_of_mem_drop hp)
theorem wide_take {n : Nat} {ps : List Pk} (h : Wide n ps) (i : Nat) : Wide n (ps.take i) := fun p hp => h p (List.mem_of_mem_take hp)
theorem range_drop {K : IntKind} {w : World} {b off : Nat} {ps : List Pk} (h : w.rangeAt b off (lcells K ps)) (hw : Wide 256 ps) (i : Nat) (hi : i ≤ ps.length) : w.rangeAt b (off + i * 257) (lcells K (ps.drop i)) :=
  range_sub h fun j hj => by rw [← lcells_drop K hw i hi, List.getElem?_drop]
theorem range_take {K : IntKind} {w : World} {b off : Nat} {ps : List Pk} (h : w.rangeAt b off (lcells K ps)) (hw : Wide 256 ps) (i : Nat) (hi : i ≤ ps.length) : w.rangeAt b off (lcells K (ps.take i)) := fun j v hv => by
  rw [← lcells_take K hw i hi, List.getElem?_take] at hv
  split at hv
  · exact h j v hv
  · cases hv
/-- A row of the call's own, of packages of type t. -/
def OwnP (t : TypeId) (K : IntKind) (w : World) (base : Nat) (v : Value) (ps : List Pk) : Prop := Wide 256 ps ∧ w.ownsRow base t 257 v ps.length (lcells K ps)
theorem ownP_none (t : TypeId) (K : IntKind) (w : World) (base : Nat) : OwnP t K w base (.slice none 0 0) [] := ⟨by simp [Wide], w.ownsRow_nil base t 257⟩
theorem OwnP.rd {t : TypeId} {K : IntKind} {w : World} {base : Nat} {v : Value} {ps : List Pk} (h : OwnP t K w base v ps) : ∃ a n c, v = .slice a n c ∧ n = ps.length ∧ n ≤ c ∧ c ≤ maxLen ∧ RdP K w a n ps := by
  rcases h.2.2 with ⟨h1, h2⟩ | ⟨g, cap, cur, h1, h2, h3, h4, h5, h6, h7⟩
  · refine ⟨none, 0, 0, h1, h2.symm, Nat.le_refl _, Nat.zero_le _, h2, h.1, fun h => absurd h (by omega)⟩
  · refine ⟨some ⟨g, 0, none⟩, ps.length, cap, h1, rfl, h4, h5, rfl, h.1, fun _ => ⟨g, 0, rfl, (h.2.lt g (by rw [h1]; rfl)).2, fun j u hu => ?_⟩⟩
    have := h.2.cells (g := g) (by rw [h1]; rfl) j u hu
    rwa [Addr.add_mid] at this
theorem OwnP.below {t : TypeId} {K : IntKind} {w w' : World} {base : Nat} {v : Value} {ps : List Pk} (h : OwnP t K w base v ps) (hb : Below w.heap.size w w') : OwnP t K w' base v ps := by
  refine ⟨h.1, World.ownsRow.kept (row := none) h.2 (below_grown hb) ?_⟩
  cases hv : v.ownBlock with
  | none => exact .inl rfl
  | some k => exact .inr (by simp)
theorem OwnP.mono {t : TypeId} {K : IntKind} {w : World} {base base' : Nat} {v : Value} {ps : List Pk} (h : OwnP t K w base v ps) (hb : base' ≤ base) : OwnP t K w base' v ps := by
  obtain ⟨h0, h1, h2⟩ := h
  refine ⟨h0, h1, ?_⟩
  rcases h2 with h2 | ⟨g, cap, cur, e1, e2, e3⟩
  · exact .inl h2
  · exact .inr ⟨g, cap, cur, e1, Nat.le_trans hb e2, e3⟩
theorem OwnP.keep {t : TypeId} {K : IntKind} {w w' : World} {base : Nat} {v : Value} {ps : List Pk} {r : Option Nat} (h : OwnP t K w base v ps) (hg : w.grownBy w' r) (hne : ∀ i, v.ownBlock = some i → r ≠ some i) : OwnP t K w' base v ps := by
  refine ⟨h.1, World.ownsRow.kept (row := r) h.2 hg ?_⟩
  cases hv : v.ownBlock with
  | none => exact .inl rfl
  | some k => exact .inr (fun e => hne k hv e.symm)
theorem infoP : (Tryz.prog.info? 161).map (fun i => (i.zero, i.size, i.bytes)) = some (some (.agg (pcells .u8 (0, List.replicate 256 0)).toArray), 257, 264) := by kernel_rfl
theorem sizeP : (Tryz.prog.info? 161).map (·.size) = some 257 := by kernel_rfl
def zpack : Pk := (0, List.replicate 256 0)
theorem info_of {t : TypeId} {Z : Value} {s b : Nat} (h : (Tryz.prog.info? t).map (fun i => (i.zero, i.size, i.bytes)) = some (some Z, s, b)) : ∃ i, Tryz.prog.info? t = some i ∧ i.zero = some Z ∧ i.size = s ∧ i.bytes = b := by
  cases hq : Tryz.prog.info? t with
  | none => simp [hq] at h
  | some i =>
    simp only [hq, Option.map_some, Option.some.injEq, Prod.mk.injEq] at h
    exact ⟨i, rfl, h.1, h.2.1, h.2.2⟩
theorem zero_of {t : TypeId} {Z : Value} {s b : Nat} (h : (Tryz.prog.info? t).map (fun i => (i.zero, i.size, i.bytes)) = some (some Z, s, b)) : ∀ W, (zeroValue t).run Tryz.prog W = .ok Z W := by
  intro W
  obtain ⟨i, h1, h2, _⟩ := info_of h
  simp [zeroValue, typeInfo, h1, h2]
theorem zeroP : ∃ Z : List Value, Hid (Z = pcells .u8 zpack) ∧ (Tryz.prog.info? 161).map (fun i => (i.zero, i.size, i.bytes)) = some (some (.agg Z.toArray), 257, 264) ∧ ∀ W, (zeroValue 161).run Tryz.prog W = .ok (.agg Z.toArray) W :=
  ⟨_, rfl, infoP, zero_of infoP⟩
theorem store_run {t : TypeId} (hi : (Tryz.prog.info? t).map (·.size) = some 257) (E : List Value) (hl : E.length = 257) (h1 : ∀ v ∈ E, v.oneCell' = true) (W : World) (g o : Nat) (h : W.there g o 257) :
    (Instr.storeAt t (.pointer (some ⟨g, o, none⟩)) (.agg E.toArray)).run Tryz.prog W = .ok () (W.setCells g o E) := by
  have e : E.toArray.size = 257 := by rw [List.size_toArray, hl]
  have := run_storeAt_mid (P := Tryz.prog) W g o t E.toArray (by rw [e]; exact h) (by rw [e]; exact hi) (all_oneCell_toArray h1)
  rwa [List.toList_toArray] at this
theorem there_new (W : World) (cs : List Value) (t : TypeId) (hs : cs.length = 257) : (W.alloc (.cells cs.toArray t)).there W.heap.size 0 257 := by
  intro j hj
  rw [cell_of_row _ _ _ _ _ _ (heap_alloc_new W (.cells cs.toArray t))]
  refine ⟨?_, frozen_of_row _ _ _ _ _ (heap_alloc_new _ _)⟩
  rw [List.getElem?_toArray, List.getElem?_eq_getElem (by omega)]; rfl
/-- A block that is one package. -/
def PBlk (t : TypeId) (K : IntKind) (w : World) (g : Nat) (p : Pk) : Prop := w.heap[g]? = some (.cells (pcells K p).toArray t)
theorem PBlk.lt {t : TypeId} {K : IntKind} {w : World} {g : Nat} {p : Pk} (h : PBlk t K w g p) : g < w.heap.size := (Array.getElem?_eq_some_iff.1 h).1
theorem PBlk.range {t : TypeId} {K : IntKind} {w : World} {g : Nat} {p : Pk} (h : PBlk t K w g p) : w.rangeAt g 0 (pcells K p) := fun j v hv => by
  rw [Nat.zero_add, cell_of_row _ _ _ _ _ _ h, List.getElem?_toArray]; exact hv
theorem PBlk.frozen {t : TypeId} {K : IntKind} {w : World} {g : Nat} {p : Pk} (h : PBlk t K w g p) (k : Nat) : w.frozen? ⟨g, k, none⟩ = false := frozen_of_row _ _ _ _ _ h
theorem PBlk.w {t : TypeId} {K : IntKind} {w : World} {g : Nat} {p : Pk} (h : PBlk t K w g p) : w.cell? ⟨g, 0, none⟩ = some (.int .i64 (p.1 : Int)) := h.range 0 _ (pcells_w K p)
theorem PBlk.t {t : TypeId} {K : IntKind} {w : World} {g : Nat} {p : Pk} (h : PBlk t K w g p) (s : Nat) (hs : s < p.2.length) : w.cell? ⟨g, 1 + s, none⟩ = some (.int K ((p.2.getD s 0 : Nat) : Int)) := by
  have := h.range (1 + s) _ (pcells_t K p s hs)
  rwa [Nat.zero_add] at this
theorem pcells_setT (K : IntKind) (p : Pk) (s c : Nat) : (pcells K p).set (1 + s) (.int K (c : Int)) = pcells K (p.1, p.2.set s c) := by
  rw [pcells, Nat.add_comm 1 s, List.set_cons_succ, pcells, List.map_set]
theorem PBlk.setT {t : TypeId} {K : IntKind} {w : World} {g : Nat} {p : Pk} (h : PBlk t K w g p) (s c : Nat) : PBlk t K (w.setCell ⟨g, 1 + s, none⟩ (.int K (c : Int))) g (p.1, p.2.set s c) := by
  unfold PBlk
  rw [heap_setCell_same _ _ _ _ _ _ h, List.setIfInBounds_toArray, pcells_setT]
theorem PBlk.grown {t : TypeId} {K : IntKind} {w w' : World} {g : Nat} {p : Pk} {r : Option Nat} (h : PBlk t K w g p) (hg : w.grownBy w' r) (hr : r ≠ some g) : PBlk t K w' g p := by
  unfold PBlk
  rw [hg.block g h.lt (fun e => hr e.symm)]
  exact h
theorem PBlk.below {t : TypeId} {K : IntKind} {w w' : World} {g : Nat} {p : Pk} (h : PBlk t K w g p) (hb : Below w.heap.size w w') : PBlk t K w' g p := h.grown (below_grown hb) (by simp)
theorem setCells_cells {t : TypeId} {b : Nat} : ∀ (vs cs : List Value) (o : Nat) (w : World), w.heap[b]? = some (.cells cs.toArray t) → o + vs.length ≤ cs.length → (w.setCells b o vs).heap[b]? = some (.cells (cs.take o ++ vs ++ cs.drop (o + vs.length)).toArray t)
  | [], cs, o, w, h, _ => by simpa [World.setCells] using h
  | v :: vs, cs, o, w, h, hl => by
    rw [List.length_cons] at hl
    have h1 := setCells_cells (t := t) vs (cs.set o v) (o + 1) (w.setCell ⟨b, o, none⟩ v) (by rw [heap_setCell_same _ _ _ _ _ _ h, List.setIfInBounds_toArray]) (by rw [List.length_set]; omega)
    have e : (cs.set o v).take (o + 1) ++ vs ++ (cs.set o v).drop (o + 1 + vs.length) = cs.take o ++ (v :: vs) ++ cs.drop (o + (v :: vs).length) := by
      rw [List.drop_set, if_pos (by omega), List.take_set, List.take_succ_eq_append_getElem (by omega), List.set_append_right _ _ (by rw [List.length_take]; omega), List.length_take, Nat.min_eq_left (by omega), Nat.sub_self, List.set_cons_zero, List.length_cons, show o + (vs.length + 1) = o + 1 + vs.length by omega]
      simp
    rw [e] at h1
    exact h1
theorem pblk_set {t : TypeId} {K : IntKind} {w : World} {g : Nat} {cs : List Value} {p : Pk} (h : w.heap[g]? = some (.cells cs.toArray t)) (hl : cs.length = (pcells K p).length) : PBlk t K (w.setCells g 0 (pcells K p)) g p := by
  have := setCells_cells (pcells K p) cs 0 w h (by omega)
  rw [List.take_zero, List.nil_append, Nat.zero_add, ← hl, List.drop_length, List.append_nil] at this
  exact this
theorem grown_setCells {w0 : World} {b : Nat} : ∀ (vs : List Value) (o : Nat) (w : World), w0.grownBy w (some b) → w0.grownBy (w.setCells b o vs) (some b)
  | [], _, _, h => h
  | v :: vs, o, w, h => grown_setCells vs (o + 1) (w.setCell ⟨b, o, none⟩ v) (grown_cell h o v)
theorem below_setCells {B : Nat} {w0 w : World} {b o : Nat} (vs : List Value) (h : Below B w0 w) (hs : B ≤ w.heap.size) (hb : B ≤ b) : Below B w0 (w.setCells b o vs) :=
  h.grown (grown_setCells vs o w (World.grownBy.refl _ _)) hs (fun i e => by cases e; exact hb)
theorem storeC (W : World) (b o : Nat) (E : List Value) (n : Nat) (hn : E.length = n) (h : W.there b o n) (h1 : ∀ v ∈ E, v.oneCell' = true) : (storeCells ⟨b, o, none⟩ E).run Tryz.prog W = .ok () (W.setCells b o E) := by
  have := run_storeCells_cells (P := Tryz.prog) b o E 0 W (fun j hj => by simpa using (h j (by omega)).1) (fun j hj => by simpa using (h j (by omega)).2) h1
  simpa using this
theorem there_blk {w : World} {g : Nat} {t : TypeId} {cs : List Value} (h : w.heap[g]? = some (.cells cs.toArray t)) (n : Nat) (hn : cs.length = n) : w.there g 0 n := by
  intro j hj
  rw [cell_of_row _ _ _ _ _ _ h]
  refine ⟨?_, frozen_of_row _ _ _ _ _ h⟩
  rw [List.getElem?_toArray, List.getElem?_eq_getElem (by omega)]; rfl
theorem uP : ∃ d, Tryz.prog.underlying 161 = some d ∧ d.isRow = true := ⟨_, Tryz.underlying161, rfl⟩
theorem results_mid1 {P : Program} {fn : Func} {p : Tmp} {ty : TypeId} (h : fn.results = #[.cell p ty]) (tmps : Array Value) (w : World) (g : Nat) (cs : List Value) (d : TypeDesc)
    (hp : tmps.getD p undef = .pointer (some ⟨g, 0, none⟩)) (hc : w.rangeAt g 0 cs) (hu : P.underlying ty = some d) (hd : d.isRow = true) (hi : (P.info? ty).map (·.size) = some cs.length) :
    (results fn tmps).run P w = .ok (.agg cs.toArray) w := by
  have hp' : tmps[p]?.getD undef = .pointer (some ⟨g, 0, none⟩) := by simpa using hp
  simp [results, h, hp', asAddr, run_loadVar_mid w g 0 ty cs d hc hu hd hi]
end Go.Proofs.YthdblnfohbldcaaGreat.Pm
/-
  both: two packages put together.
-/
namespace Go.Proofs.YthdblnfohbldcaaGreat.Pm
open Go.ChangeShapes Go.WideShapes Go.ChangeAt Go.RowKit
open Go.Proofs.YthdblnfohbldcaaGreat.Base
set_option linter.unusedVariables false
/-- The first k of the sums are laid. -/
def sumsTo (x y : Pk) (k : Nat) : Pk := (x.1 + y.1, (both x y).2.take k ++ List.replicate (256 - k) 0)
theorem sumsTo_zero (x y : Pk) (S : Nat) (h : x.1 + y.1 = S) : (S, zpack.2) = sumsTo x y 0 := by unfold sumsTo zpack; rw [h, List.take_zero, List.nil_append, Nat.sub_zero]
theorem both_len (x y : Pk) (hx : x.2.length = 256) (hy : y.2.length = 256) : (both x y).2.length = 256 := both_wide x y 256 hx hy
theorem sumsTo_len (x y : Pk) (hx : x.2.length = 256) (hy : y.2.length = 256) (k : Nat) (hk : k ≤ 256) : (sumsTo x y k).2.length = 256 := by
  simp only [sumsTo, List.length_append, List.length_take, List.length_replicate, both_len x y hx hy]; omega
theorem sumsTo_all (x y : Pk) (hx : x.2.length = 256) (hy : y.2.length = 256) : sumsTo x y 256 = both x y := by
  have h := both_len x y hx hy
  have e : (both x y).2.take 256 = (both x y).2 := List.take_of_length_le (by omega)
  unfold sumsTo
  rw [e, Nat.sub_self, List.replicate_zero, List.append_nil]; rfl
theorem sumsTo_set (x y : Pk) (hx : x.2.length = 256) (hy : y.2.length = 256) (k : Nat) (hk : k < 256) (c : Nat) (hc : x.2.getD k 0 + y.2.getD k 0 = c) : ((sumsTo x y k).1, (sumsTo x y k).2.set k c) = sumsTo x y (k + 1) := by
  have h := both_len x y hx hy
  have hg := both_get x y k (by rw [hx, hy])
  rw [hc] at hg
  unfold sumsTo
  simp only
  have hl : ((both x y).2.take k).length = k := by rw [List.length_take]; omega
  rw [List.set_append_right _ _ (by omega), hl, Nat.sub_self, show 256 - k = (256 - (k + 1)) + 1 by omega, List.replicate_succ, List.set_cons_zero,
    List.take_succ_eq_append_getElem (by omega), List.append_assoc]
  rw [List.getD_eq_getElem?_getD, List.getElem?_eq_getElem (by omega)] at hg
  simp only [Option.getD_some] at hg
  rw [hg]
  rfl
set_option maxHeartbeats 1000000 in
set_option maxRecDepth 100000 in
theorem both_any (b1 o1 b2 o2 : Nat) (x y : Pk) (w : World) (h1 : w.rangeAt b1 o1 (pcells .u8 x)) (h2 : w.rangeAt b2 o2 (pcells .u8 y)) (hb1 : b1 < w.heap.size) (hb2 : b2 < w.heap.size)
    (hx : x.2.length = 256) (hy : y.2.length = 256) (hw : x.1 + y.1 ≤ 4611686018427387904) (ht : ∀ s, x.2.getD s 0 + y.2.getD s 0 ≤ 255) :
    Calls Tryz.prog 168 #[.pointer (some ⟨b1, o1, none⟩), .pointer (some ⟨b2, o2, none⟩)] w fun e w' => e = .returned (.agg (pcells .u8 (both x y)).toArray) ∧ Below w.heap.size w w' := by
  obtain ⟨Z, HZ, HI, hz⟩ := zeroP
  have HI2 := hide HI
  have HX := hide h1
  have HY := hide h2
  have HLX := hide hx
  have HLY := hide hy
  have HT := hide ht
  have c1 := h1 0 _ (pcells_w _ x)
  have c2 := h2 0 _ (pcells_w _ y)
  rw [Nat.add_zero] at c1 c2
  obtain ⟨W1, hW1⟩ : ∃ W1, x.1 = W1 := ⟨_, rfl⟩
  obtain ⟨W2, hW2⟩ : ∃ W2, y.1 = W2 := ⟨_, rfl⟩
  rw [hW1] at c1 hw
  rw [hW2] at c2 hw
  obtain ⟨S, hS⟩ : ∃ S : Nat, W1 + W2 = S := ⟨_, rfl⟩
  have hSi : IntKind.i64.wrap ((W1 : Int) + (W2 : Int)) = (S : Int) := by rw [IntKind.wrap_i64]; omega
  obtain ⟨E, hE⟩ : ∃ E, pcells .u8 (S, zpack.2) = E := ⟨_, rfl⟩
  have hset : Z.set 0 (.int .i64 (S : Int)) = E := by rw [← hE, HZ.out]; rfl
  have HE := hide hE
  have HS0 : Hid ((S, zpack.2) = sumsTo x y 0) := sumsTo_zero x y S (by rw [hW1, hW2, hS])
  have hzn : Z ≠ [] := by rw [HZ.out]; simp [pcells]
  have HZL : Hid (Z.length = 257) := by show _ = _; rw [HZ.out]; exact pcells_len _ (List.length_replicate ..)
  have HEL : Hid (E.length = 257) := by show _ = _; rw [← hE]; exact pcells_len _ (List.length_replicate ..)
  have HE1 : Hid (∀ v ∈ E, v.oneCell' = true) := by rw [← hE]; exact pcells_one _ _
  have n1 := World.new_ne w _ c1
  have n2 := World.new_ne w _ c2
  have HTH : Hid (((w.alloc (.cells Z.toArray 161)).alloc (.cells Z.toArray 161)).drew.there (w.heap.size + 1) 0 257) := by
    have := there_new (w.alloc (.cells Z.toArray 161)) Z 161 HZL.out
    rw [World.size_alloc] at this
    exact (World.there_drew _ _ _ _).2 this
  have hst := storeC _ _ _ E 257 HEL.out HTH.out HE1.out
  have HBA : Hid (Below w.heap.size w (((w.alloc (.cells Z.toArray 161)).alloc (.cells Z.toArray 161)).drew)) := ((((Below.refl _ _).alloc (Nat.le_refl _) _).alloc (by simp) _).drew)
  have HB5 : Hid (Below w.heap.size w ((((w.alloc (.cells Z.toArray 161)).alloc (.cells Z.toArray 161)).drew).setCells (w.heap.size + 1) 0 E)) := below_setCells E HBA.out HBA.out.size (by omega)
  have HP5 : Hid (PBlk 161 .u8 ((((w.alloc (.cells Z.toArray 161)).alloc (.cells Z.toArray 161)).drew).setCells (w.heap.size + 1) 0 E) (w.heap.size + 1) (sumsTo x y 0)) := by
    show PBlk _ _ _ _ _
    have e : E = pcells .u8 (sumsTo x y 0) := by rw [← HS0.out, hE]
    rw [e]
    refine pblk_set (cs := Z) ?_ (by rw [HZL.out, ← e, HEL.out])
    have := heap_alloc_new (w.alloc (.cells Z.toArray 161)) (.cells Z.toArray 161)
    rw [World.size_alloc] at this
    exact this
  have HR5 : Hid ((((w.alloc (.cells Z.toArray 161)).alloc (.cells Z.toArray 161)).drew.setCells (w.heap.size + 1) 0 E).heap[w.heap.size]? = some (.cells Z.toArray 161)) := by
    have hg := grown_setCells E 0 _ (World.grownBy.refl (((w.alloc (.cells Z.toArray 161)).alloc (.cells Z.toArray 161)).drew) (some (w.heap.size + 1)))
    refine (hg.block w.heap.size (by simp; omega) (by simp)).trans ?_
    have h0 := heap_alloc_old (w.alloc (.cells Z.toArray 161)) (.cells Z.toArray 161) (r := w.heap.size) (by simp)
    exact h0.trans (heap_alloc_new _ _)
  obtain ⟨w5, hw5⟩ : ∃ w5, (((w.alloc (.cells Z.toArray 161)).alloc (.cells Z.toArray 161)).drew).setCells (w.heap.size + 1) 0 E = w5 := ⟨_, rfl⟩
  rw [hw5] at hst HB5 HP5 HR5
  have HW5 := hide hw5
  have k1 := (HB5.out.cell (p := ⟨b1, o1, none⟩) hb1).trans c1
  have k2 := (HB5.out.cell (p := ⟨b2, o2, none⟩) hb2).trans c2
  clear HI h1 h2 hE hS hW1 hW2 hx hy ht hw5 HBA HTH HW5
  go_enter Tryz.func168, Tryz.ntmps168
  go_wp2_with fail
  go_region_held (fun V => V.cell? ⟨b1, o1, none⟩ = some (.int .i64 (W1 : Int)) ∧ V.cell? ⟨b2, o2, none⟩ = some (.int .i64 (W2 : Int))) (first | exact ⟨k1, k2⟩ | go_keep) (fail)
  clear hst k1 k2 c1 c2 n1 n2 hset hzn hz hSi
  obtain ⟨g, hg⟩ : ∃ g, w.heap.size = g := ⟨_, rfl⟩
  rw [hg] at HP5 HR5 ⊢
  have HG : Hid (w.heap.size = g) := hg
  clear hg
  go_wp2_with fail
  go_loopw [17] (fun i wr => ∃ k : Nat, k ≤ 256 ∧ i = .int .i64 (k : Int) ∧ Hid (PBlk 161 .u8 wr (g + 1) (sumsTo x y k)) ∧ Hid (wr.heap[g]? = some (.cells Z.toArray 161)) ∧ Hid (Below w.heap.size w wr)) (fun i _ => 256 - (intOf i).toNat)
  case atStart => exact ⟨0, by omega, rfl, HP5, HR5, HB5⟩
  case round =>
    clear HP5 HR5 HB5
    obtain ⟨k, hk, rfl, HP, HR, HB⟩ := hrel
    by_cases hlt : k < 256
    · have c1 := HX.out (1 + k) _ (pcells_t .u8 x k (by rw [HLX.out]; exact hlt))
      have c2 := HY.out (1 + k) _ (pcells_t .u8 y k (by rw [HLY.out]; exact hlt))
      have hs := HT.out k
      obtain ⟨A, hA⟩ : ∃ A, x.2.getD k 0 = A := ⟨_, rfl⟩
      obtain ⟨B, hB⟩ : ∃ B, y.2.getD k 0 = B := ⟨_, rfl⟩
      obtain ⟨C, hC⟩ : ∃ C, A + B = C := ⟨_, rfl⟩
      have HN := hide (sumsTo_set x y HLX.out HLY.out k hlt C (by rw [hA, hB, hC]))
      rw [hA] at c1 hs
      rw [hB] at c2 hs
      have hw8 : IntKind.u8.wrap ((A : Int) + (B : Int)) = (C : Int) := by rw [IntKind.wrap_u8]; omega
      rw [← HB.out.cell (p := ⟨b1, o1 + (1 + k), none⟩) hb1, ← Nat.add_assoc] at c1
      rw [← HB.out.cell (p := ⟨b2, o2 + (1 + k), none⟩) hb2, ← Nat.add_assoc] at c2
      have f3 := HP.out.frozen (1 + k)
      have c3 := HP.out.t k (by rw [sumsTo_len x y HLX.out HLY.out k hk]; exact hlt)
      generalize (sumsTo x y k).2.getD k 0 = D at c3
      have hki : (k : Int) < 256 := by omega
      have HS := hide (HP.out.setT k C)
      rw [HN.out] at HS
      have m1 : g + 1 ≠ b1 := by have := HG.out; omega
      have m2 : g + 1 ≠ b2 := by have := HG.out; omega
      clear hA hB hC hs hw
      go_wp2_with fail
      go_region_held (fun V => V.cell? ⟨b1, o1 + 1 + k, none⟩ = some (.int .u8 (A : Int)) ∧ V.cell? ⟨b2, o2 + 1 + k, none⟩ = some (.int .u8 (B : Int))) (go_keep) (fail)
      go_wp2_with fail
      go_roundw
      case rel => exact ⟨k + 1, by omega, by go_num, HS.out, (heap_setCell_other _ _ _ _ (by simp)).trans HR.out, (HB.out.setCell (p := ⟨g + 1, 1 + k, none⟩) (by have := HG.out; show _ ≤ g + 1; omega) _).drew⟩
      case measure => simp [intOf]; omega
    · obtain rfl : k = 256 := by omega
      have HPB : Hid (PBlk 161 .u8 wr (g + 1) (both x y)) := by rw [← sumsTo_all x y HLX.out HLY.out]; exact HP.out
      have HRA := hide HPB.out.range
      have HTH := hide (there_blk HR.out 257 HZL.out)
      have HON : Hid (∀ v ∈ pcells .u8 (both x y), v.oneCell' = true) := pcells_one _ _
      have HLN : Hid ((pcells .u8 (both x y)).length = 257) := pcells_len _ (both_len x y HLX.out HLY.out)
      have HPG : Hid (PBlk 161 .u8 (wr.setCells g 0 (pcells .u8 (both x y))) g (both x y)) := pblk_set HR.out (by rw [HZL.out, HLN.out])
      have HBF : Hid (Below w.heap.size w (wr.setCells g 0 (pcells .u8 (both x y)))) := below_setCells _ HB.out HB.out.size (Nat.le_of_eq HG.out)
      have I1 : Hid ((Tryz.prog.info? 161).map (·.size) = some (pcells .u8 (both x y)).length) := by show _ = _; rw [HLN.out]; exact sizeP
      have I2 : Hid ((Tryz.prog.info? 161).map (·.size) = some (pcells .u8 (both x y)).toArray.size) := by show _ = _; rw [List.size_toArray, HLN.out]; exact sizeP
      have HTH2 : Hid (wr.there g 0 (pcells .u8 (both x y)).toArray.size) := by
        have e : (pcells .u8 (both x y)).toArray.size = 257 := by rw [List.size_toArray, HLN.out]
        rw [e]; exact HTH.out
      have HPGU : Hid ((wr.setCells g 0 (pcells .u8 (both x y))).heap[g]? = some (.cells (pcells .u8 (both x y)).toArray 161)) := HPG.out
      clear HPG HPB HP HR HTH
      obtain ⟨d, hu, hd⟩ := uP
      have HU := hide hu
      clear hu
      obtain ⟨V, hV⟩ : ∃ V, pcells .u8 (both x y) = V := ⟨_, rfl⟩
      have HV := hide hV
      rw [hV] at HRA HTH2 HON HLN HPGU HBF I1 I2
      clear hV
      obtain ⟨w7, hw7⟩ : ∃ w7, wr.setCells g 0 V = w7 := ⟨_, rfl⟩
      have HW7 := hide hw7
      rw [hw7] at HPGU HBF
      clear hw7
      go_wp2_with (first
        | (refine wpList_load_mid rfl 161 (.tmp 5) rfl (g + 1) 0 rfl V _ HRA.out HU.out hd I1.out ?_)
        | (refine wpList_store_mid rfl 161 (.tmp 4) (.tmp 37) rfl g 0 V.toArray rfl rfl HTH2.out I2.out (all_oneCell_toArray HON.out) ?_
           rw [List.toList_toArray, HW7.out]))
      refine bodyPost_ret (v := .agg V.toArray) ?_ rfl ⟨by rw [HV.out], HBF.out⟩
      exact results_mid1 (P := Tryz.prog) rfl _ _ g V d rfl (fun j v hv => by rw [Nat.zero_add, cell_of_row _ _ _ _ _ _ HPGU.out, List.getElem?_toArray]; exact hv) HU.out hd I1.out
end Go.Proofs.YthdblnfohbldcaaGreat.Pm
/-
  No word begins another one; words of one length rise with their symbols; a word has no more bits than its length.
-/
namespace Go.Proofs.YthdblnfohbldcaaGreat.Huff
open Go.ChangeShapes Go.WideShapes Go.ChangeAt Go.RowKit
open Go.Proofs.YthdblnfohbldcaaGreat.Base
set_option linter.unusedVariables false
theorem first_far (ls : List Int) (l : Nat) : ∀ d, (first ls l + cntW ls ls.length l) * 2 ^ (d + 1) ≤ first ls (l + d + 1) := by
  intro d
  induction d with
  | zero => simp only [first]; omega
  | succ d ih =>
    have e : first ls (l + (d + 1) + 1) = 2 * (first ls (l + d + 1) + cntW ls ls.length (l + d + 1)) := rfl
    rw [e, Nat.pow_succ, ← Nat.mul_assoc]
    omega
theorem code_parts {ls : List Int} {i l A : Nat} (hl : 0 < l) (hi : i < ls.length) (h : codeAt ls i = ((l : Int), A)) : ls.getD i 0 = (l : Int) ∧ first ls l ≤ A ∧ A < first ls l + cntW ls ls.length l ∧ cnt ls l i = A - first ls l := by
  obtain ⟨h1, h2, h3⟩ := (code_iff ls l A i hl).1 h
  have := (word_there ls l A hl).1 ⟨i, hi, h⟩
  exact ⟨h1, h2, this.2, h3⟩
theorem prefix_free (ls : List Int) {i k l m A B : Nat} (hi : i < ls.length) (hk : k < ls.length) (hne : i ≠ k) (hl : 0 < l) (hlm : l ≤ m) (ha : codeAt ls i = ((l : Int), A)) (hb : codeAt ls k = ((m : Int), B)) : B / 2 ^ (m - l) ≠ A := by
  intro e
  obtain ⟨a1, a2, a3, a4⟩ := code_parts hl hi ha
  obtain ⟨b1, b2, b3, b4⟩ := code_parts (by omega) hk hb
  by_cases q : l = m
  · subst q
    rw [Nat.sub_self, Nat.pow_zero, Nat.div_one] at e
    subst e
    exact hne (word_one ls l B hl ha hb)
  · have hf := first_far ls l (m - l - 1)
    rw [show m - l - 1 + 1 = m - l by omega, show l + (m - l - 1) + 1 = m by omega] at hf
    have hp : 0 < 2 ^ (m - l) := Nat.pos_of_ne_zero (by simp)
    have h1 : first ls l + cntW ls ls.length l ≤ B / 2 ^ (m - l) := (Nat.le_div_iff_mul_le hp).2 (Nat.le_trans hf b2)
    omega
theorem rises (ls : List Int) {i k l A B : Nat} (hi : i < ls.length) (hk : k < ls.length) (hl : 0 < l) (ha : codeAt ls i = ((l : Int), A)) (hb : codeAt ls k = ((l : Int), B)) : i < k ↔ A < B := by
  obtain ⟨a1, a2, a3, a4⟩ := code_parts hl hi ha
  obtain ⟨b1, b2, b3, b4⟩ := code_parts hl hk hb
  constructor
  · intro h
    have := cnt_lt ls l h a1
    omega
  · intro h
    rcases Nat.lt_trichotomy i k with q | q | q
    · exact q
    · subst q; omega
    · have := cnt_lt ls l q b1; omega
theorem fits_len (ls : List Int) (hr : right ls = true) {l : Nat} (hl : l ≤ 15) : first ls l + cntW ls ls.length l ≤ 2 ^ l := by
  have h15 : last ls ≤ 32768 := by unfold right at hr; exact of_decide_eq_true hr
  unfold last at h15
  by_cases e : l = 15
  · subst e; exact h15
  · have hf := first_far ls l (15 - l - 1)
    rw [show 15 - l - 1 + 1 = 15 - l by omega, show l + (15 - l - 1) + 1 = 15 by omega] at hf
    have hp : 0 < 2 ^ (15 - l) := Nat.pos_of_ne_zero (by simp)
    have h2 : (first ls l + cntW ls ls.length l) * 2 ^ (15 - l) ≤ 2 ^ l * 2 ^ (15 - l) := by
      rw [← Nat.pow_add, show l + (15 - l) = 15 by omega]
      exact Nat.le_trans hf (by omega)
    exact Nat.le_of_mul_le_mul_right h2 hp
theorem word_small (ls : List Int) (hr : right ls = true) {i l A : Nat} (hi : i < ls.length) (hl : 0 < l) (h15 : l ≤ 15) (ha : codeAt ls i = ((l : Int), A)) : A < 2 ^ l := by
  have h1 := (code_parts hl hi ha).2.2.1
  have h2 := fits_len ls hr h15
  omega
end Go.Proofs.YthdblnfohbldcaaGreat.Huff
/-
  Slices that read as texts; lists of texts of the call's own.
-/
namespace Go.Proofs.YthdblnfohbldcaaGreat.Pa
open Go.ChangeShapes Go.WideShapes Go.ChangeAt Go.RowKit
open Go.Proofs.YthdblnfohbldcaaGreat.Base
set_option linter.unusedVariables false
/-- The slice 'a, len' reads as the texts 'ss' in the world 'w'. -/
def RdS (w : World) (a : Option Addr) (len : Nat) (ss : List ByteArray) : Prop :=
  ss.length = len ∧ len ≤ 140737488355328 ∧ (∀ s ∈ ss, s.size ≤ 9223372036854775807) ∧ (0 < len → ∃ b off, a = some ⟨b, off, none⟩ ∧ b < w.heap.size ∧ ∀ i, i < len → w.cell? ⟨b, off + i, none⟩ = some (.string (ss.getD i ⟨#[]⟩)))
theorem getS_mem {ss : List ByteArray} {i : Nat} (h : i < ss.length) : ss.getD i ⟨#[]⟩ ∈ ss := by
  rw [List.getD_eq_getElem?_getD, List.getElem?_eq_getElem h]; exact List.getElem_mem h
theorem RdS.below {w w' : World} {a : Option Addr} {len : Nat} {ss : List ByteArray} (h : RdS w a len ss) (hb : Below w.heap.size w w') : RdS w' a len ss := by
  obtain ⟨h1, h2, h3, h4⟩ := h
  refine ⟨h1, h2, h3, fun hp => ?_⟩
  obtain ⟨b, off, rfl, hlt, hc⟩ := h4 hp
  refine ⟨b, off, rfl, Nat.lt_of_lt_of_le hlt hb.size, fun i hi => ?_⟩
  rw [hb.cell (p := ⟨b, off + i, none⟩) hlt]
  exact hc i hi
theorem RdS.old {w w' : World} {B : Nat} {a : Option Addr} {len : Nat} {ss : List ByteArray} (h : RdS w a len ss) (hl : ∀ ad, a = some ad → 0 < len → ad.block < B) (hb : Below B w w') (hs : w.heap.size ≤ w'.heap.size) : RdS w' a len ss := by
  obtain ⟨h1, h2, h3, h4⟩ := h
  refine ⟨h1, h2, h3, fun hp => ?_⟩
  obtain ⟨b, off, rfl, hlt, hc⟩ := h4 hp
  refine ⟨b, off, rfl, Nat.lt_of_lt_of_le hlt hs, fun i hi => ?_⟩
  rw [hb.cell (p := ⟨b, off + i, none⟩) (hl ⟨b, off, none⟩ rfl hp)]
  exact hc i hi
theorem RdS.cut {w : World} {a : Option Addr} {len : Nat} {ss : List ByteArray} (h : RdS w a len ss) (m : Nat) (hm : m ≤ len) : RdS w a m (ss.take m) := by
  obtain ⟨h1, h2, h3, h4⟩ := h
  refine ⟨by rw [List.length_take]; omega, by omega, fun s hs => h3 s (List.mem_of_mem_take hs), fun hp => ?_⟩
  obtain ⟨b, off, rfl, hlt, hc⟩ := h4 (by omega)
  refine ⟨b, off, rfl, hlt, fun i hi => ?_⟩
  rw [hc i (by omega), List.getD_eq_getElem?_getD, List.getD_eq_getElem?_getD, List.getElem?_take, if_pos hi]
theorem rds_nil (w : World) : RdS w none 0 [] := ⟨rfl, by omega, (fun s hs => absurd hs List.not_mem_nil), (fun h => absurd h (by omega))⟩
theorem rds_row {w : World} {x : Addr} {l c : Nat} {Sx : Nat → ByteArray} (hl : l ≤ c) (hc : c ≤ 140737488355328) (hcell : ∀ i, i < c → w.cell? (x.add i) = some (.string (Sx i)) ∧ (Sx i).size ≤ maxLen) : RdS w (some x) l ((List.range l).map Sx) := by
  refine ⟨by simp, by omega, ?_, fun hp => ?_⟩
  · intro s hs
    obtain ⟨i, hi, rfl⟩ := List.mem_map.1 hs
    have h := (hcell i (by have := List.mem_range.1 hi; omega)).2
    unfold maxLen at h
    omega
  · obtain ⟨b, off, spot⟩ := x
    have h0 := (hcell 0 (by omega)).1
    have hspot : spot = none := by simpa [Addr.add] using World.cell?_spot h0
    subst hspot
    refine ⟨b, off, rfl, ?_, fun i hi => ?_⟩
    · have := block_lt_of_cell h0
      simpa [Addr.add] using this
    · have h := (hcell i (by omega)).1
      rw [show (⟨b, off, none⟩ : Addr).add i = ⟨b, off + i, none⟩ by simp [Addr.add]] at h
      rw [h, List.getD_eq_getElem?_getD, List.getElem?_map, List.getElem?_range hi]
      rfl
/-- Texts as cells. -/
def svals (ss : List ByteArray) : List Value := ss.map Value.string
theorem svals_len (ss : List ByteArray) : (svals ss).length = ss.length := by simp [svals]
theorem svals_append (a b : List ByteArray) : svals (a ++ b) = svals a ++ svals b := by simp [svals]
/-- A list of texts of the call's own. -/
def OwnS (w : World) (base : Nat) (v : Value) (ss : List ByteArray) : Prop := w.ownsRow base 9 1 v ss.length (svals ss)
theorem infoS : (Tryz.prog.info? 9).map (fun i => (i.zero, i.size, i.bytes)) = some (some (.string ⟨#[]⟩), 1, 16) := by kernel_rfl
theorem owns_none (w : World) (base : Nat) : OwnS w base (.slice none 0 0) [] := ⟨by simp [svals], .inl ⟨rfl, rfl⟩⟩
theorem OwnS.shape {w : World} {base : Nat} {v : Value} {ss : List ByteArray} (h : OwnS w base v ss) : ∃ a c, v = .slice a ss.length c := by
  rcases h.2 with ⟨h1, h2⟩ | ⟨g, c, cur, h1, _⟩
  · rw [h2]; exact ⟨_, _, h1⟩
  · exact ⟨_, _, h1⟩
theorem OwnS.below {w w' : World} {base : Nat} {v : Value} {ss : List ByteArray} (h : OwnS w base v ss) (hb : Below w.heap.size w w') : OwnS w' base v ss := by
  refine World.ownsRow.kept (row := none) h (below_grown hb) ?_
  cases hv : v.ownBlock with
  | none => exact .inl rfl
  | some k => exact .inr (by simp)
theorem OwnS.rds {w : World} {base n c : Nat} {a : Option Addr} {ss : List ByteArray} (h : OwnS w base (.slice a n c) ss) (hl : ss.length ≤ 140737488355328) (hs : ∀ s ∈ ss, s.size ≤ 9223372036854775807) : RdS w a n ss := by
  rcases h.2 with ⟨h1, h2⟩ | ⟨g, cap', cur, h1, _⟩
  · simp only [Value.slice.injEq] at h1
    obtain ⟨rfl, rfl, rfl⟩ := h1
    have : ss = [] := List.length_eq_zero_iff.1 h2
    subst this
    exact rds_nil _
  · simp only [Value.slice.injEq] at h1
    obtain ⟨rfl, h2, rfl⟩ := h1
    subst h2
    refine ⟨rfl, hl, hs, fun hp => ⟨g, 0, rfl, (World.ownsRow.lt h g rfl).2, fun i hi => ?_⟩⟩
    rw [Nat.zero_add, World.ownsRow.cellAt h i (by omega), svals, List.getElem?_map, List.getElem?_eq_getElem hi, List.getD_eq_getElem?_getD, List.getElem?_eq_getElem hi]
    rfl
/-- append of one text onto a list of the call's own. -/
theorem pushS {ops : Array Oper} {rest : List Oper} {o : Oper} {a : Act} {Q : Exit → Act → World → Prop} (w : World) (hgd : o.guard = none) (s x : Operand)
    (ho : o.op = .call { callee := .builtin .append, args := #[s, x], argTypes := #[48, 48] })
    (base : Nat) (v : Value) (ss : List ByteArray) (hs : a.eval s = v) (hown : OwnS w base v ss) (ad : Addr) (cap : Nat) (c : ByteArray) (hx : a.eval x = .slice (some ad) 1 cap)
    (hc : w.cell? (ad.add 0) = some (.string c)) (hl : ss.length + 1 ≤ 8796093022208) (hbase : base ≤ w.heap.size)
    (h : ∀ v' w', OwnS w' base v' (ss ++ [c]) → w.grownBy w' v.ownBlock → wpList Tryz.prog ops Q rest (a.put o.dst v') w') : wpList Tryz.prog ops Q (o :: rest) a w := by
  obtain ⟨i0, hi, hz0, hz1, hz2⟩ := info_parts infoS
  refine wpList_append_own w hgd s x 48 ho base 9 i0 (.string ⟨#[]⟩) 1 16 Tryz.underlying48 hi hz0 hz1 hz2 rfl (by omega) v ss.length (svals ss) hs hown ad 1 cap [.string c] hx rfl ?_ ?_ (by unfold maxLen; omega) (by omega) hbase ?_
  · intro j u hu
    cases j with
    | zero => simp at hu; subst hu; exact hc
    | succ j => simp at hu
  · intro u hu
    simp at hu
    subst hu
    rfl
  · intro v' w' h1 h2 _
    refine h v' w' ?_ h2
    unfold OwnS
    rw [List.length_append, svals_append]
    exact h1
theorem svals_set (ss : List ByteArray) (k : Nat) (c : ByteArray) : (svals ss).set k (.string c) = svals (ss.set k c) := by simp [svals, List.map_set]
theorem svals_get (ss : List ByteArray) (i : Nat) (h : i < ss.length) : (svals ss)[i]? = some (.string (ss.getD i ⟨#[]⟩)) := by
  rw [svals, List.getElem?_map, List.getElem?_eq_getElem h, List.getD_eq_getElem?_getD, List.getElem?_eq_getElem h]; rfl
theorem OwnS.len {w : World} {base g n cap : Nat} {ss : List ByteArray} (h : OwnS w base (.slice (some ⟨g, 0, none⟩) n cap) ss) : n = ss.length := by
  rcases h.2 with ⟨h1, _⟩ | ⟨_, _, _, h1, _⟩
  · simp at h1
  · simp at h1; exact h1.2.1
theorem OwnS.cell {w : World} {base g n cap : Nat} {ss : List ByteArray} (h : OwnS w base (.slice (some ⟨g, 0, none⟩) n cap) ss) (k : Nat) (hk : k < n) : w.cell? ⟨g, k, none⟩ = some (.string (ss.getD k ⟨#[]⟩)) := by
  have hn := h.len
  subst hn
  rw [World.ownsRow.cellAt h k (by omega), svals_get ss k hk]
theorem OwnS.frozen {w : World} {base g n cap : Nat} {ss : List ByteArray} (h : OwnS w base (.slice (some ⟨g, 0, none⟩) n cap) ss) (k : Nat) : w.frozen? ⟨g, k, none⟩ = false := by
  have hn := h.len
  subst hn
  exact World.ownsRow.frozenAt h k
theorem OwnS.store {w : World} {base g n cap : Nat} {ss : List ByteArray} (h : OwnS w base (.slice (some ⟨g, 0, none⟩) n cap) ss) (k : Nat) (c : ByteArray) :
    OwnS (w.setCell ⟨g, k, none⟩ (.string c)) base (.slice (some ⟨g, 0, none⟩) n cap) (ss.set k c) ∧ w.grownBy (w.setCell ⟨g, k, none⟩ (.string c)) (some g) := by
  have hn := h.len
  subst hn
  have := World.ownsRow.stored h k (.string c)
  unfold OwnS
  rw [List.length_set, ← svals_set]
  exact this
theorem own_heapS {w : World} {base g : Nat} {ss : List ByteArray} (h : w.heap[g]? = some (.cells (svals ss).toArray 9)) (hb : base ≤ g) (hm : ss.length ≤ maxLen) : OwnS w base (.slice (some ⟨g, 0, none⟩) ss.length ss.length) ss :=
  ⟨by rw [svals_len]; omega, .inr ⟨g, ss.length, _, rfl, hb, h, Nat.le_refl _, hm, by simp [svals_len], by rw [List.take_of_length_le (by simp [svals_len])]⟩⟩
def markS : ByteArray := ⟨#[109, 97, 114, 107]⟩
theorem makeS (n : Nat) : madeCells #[Value.string ⟨#[]⟩] n = (svals (List.replicate n ⟨#[]⟩)).toArray := by
  apply Array.ext
  · rw [size_madeCells]; simp [svals]
  · intro k h1 h2
    simp [madeCells, svals, Nat.mod_one]
theorem make_row_str (n : Nat) (m : Int) (hm : m = (n : Int)) (h : n ≤ 8796093022208) : ∀ W, (Instr.makeSlice 48 (.int .i64 m) (.int .i64 m)).run Tryz.prog W = .ok (.slice (some ⟨W.heap.size, 0, none⟩) n n) (W.alloc (.cells (svals (List.replicate n ⟨#[]⟩)).toArray 9)) := by
  intro W
  subst hm
  rw [← makeS]
  exact run_make_row' 48 9 (.string ⟨#[]⟩) 16 Tryz.underlying48 infoS rfl .i64 .i64 n (by omega) (by omega) W
/-- The first k are laid, the rest are zeros. -/
def laidS (zs : List ByteArray) (k : Nat) : List ByteArray := zs.take k ++ List.replicate (zs.length - k) ⟨#[]⟩
theorem laidS_len (zs : List ByteArray) (k : Nat) (h : k ≤ zs.length) : (laidS zs k).length = zs.length := by
  unfold laidS; rw [List.length_append, List.length_take, List.length_replicate]; omega
theorem laidS_zero (zs : List ByteArray) : laidS zs 0 = List.replicate zs.length ⟨#[]⟩ := by unfold laidS; simp
theorem laidS_all (zs : List ByteArray) : laidS zs zs.length = zs := by unfold laidS; simp
theorem laidS_succ (zs : List ByteArray) (k : Nat) (h : k < zs.length) : (laidS zs k).set k (zs.getD k ⟨#[]⟩) = laidS zs (k + 1) := by
  unfold laidS
  have hl : (zs.take k).length = k := by rw [List.length_take]; omega
  rw [List.set_append_right _ _ (by omega), hl, Nat.sub_self, show zs.length - k = (zs.length - (k + 1)) + 1 by omega, List.replicate_succ, List.set_cons_zero,
    List.take_succ_eq_append_getElem h, List.append_assoc, List.getD_eq_getElem?_getD, List.getElem?_eq_getElem h]
  rfl
set_option linter.unusedVariables false
theorem weightsAll_mem {H : Type} {P : Program} {e : TypeId} {d : DataW H} {l : List (DataW H)} (hd : d ∈ l) : ∀ n ∈ d.weights P e, n ∈ DataW.weightsAll P e l := by
  induction l with
  | nil => cases hd
  | cons x r ih =>
    intro n hn
    rw [DataW.weightsAll, List.mem_append]
    rcases List.mem_cons.1 hd with rfl | h
    · exact .inl hn
    · exact .inr (ih h n hn)
theorem sized_strs {H : Type} {P : Program} {ts : List TypeId} {ds : List (DataW H)} (h : (DataW.weightsEach P ts ds).all (· ≤ reachBytes) = true) {j : Nat} {t e : TypeId} {elems spare : List (DataW H)} (ht : ts[j]? = some t) (hd : ds[j]? = some (.slice elems spare)) (hu : P.underlying t = some (.slice e)) {bytes : List UInt8} (hm : DataW.lit (.string bytes) ∈ elems) : bytes.length ≤ reachBytes := by
  have h1 : bytes.length ∈ DataW.weightsAll P e elems := weightsAll_mem hm bytes.length (by simp [DataW.weights])
  have := List.all_eq_true.1 h _ (DataW.weights_mem_each ht hd bytes.length (by
    rw [DataW.weights, hu]
    exact List.mem_cons_of_mem _ (List.mem_append.2 (.inl h1))))
  simpa using this
theorem keepS {w w' : World} {base : Nat} {v : Value} {ss : List ByteArray} {q : Option Nat} (h : OwnS w base v ss) (hg : w.grownBy w' q) (hne : ∀ i j, v.ownBlock = some i → q = some j → i ≠ j) : OwnS w' base v ss := by
  refine World.ownsRow.kept (row := q) h hg ?_
  cases hv : v.ownBlock with
  | none => exact .inl rfl
  | some i => exact .inr (fun e => hne i i hv e.symm rfl)
theorem OwnS.lt' {w : World} {base g n cap : Nat} {ss : List ByteArray} (h : OwnS w base (.slice (some ⟨g, 0, none⟩) n cap) ss) : base ≤ g ∧ g < w.heap.size := World.ownsRow.lt h g rfl
theorem svals_one (ss : List ByteArray) : ∀ v ∈ svals ss, v.oneCell' = true := by
  intro v hv
  obtain ⟨s, _, rfl⟩ := List.mem_map.1 hv
  rfl
theorem RdS.cellsAt {w : World} {a : Option Addr} {len : Nat} {ss : List ByteArray} (h : RdS w a len ss) (ad : Addr) (had : a = some ad) (j : Nat) (v : Value) (hv : (svals ss)[j]? = some v) : w.cell? (ad.add j) = some v := by
  obtain ⟨h1, h2, h3, h4⟩ := h
  have hj : j < ss.length := by
    rw [← svals_len]
    exact (List.getElem?_eq_some_iff.1 hv).1
  obtain ⟨b, off, e, hlt, hc⟩ := h4 (by omega)
  rw [had] at e
  cases e
  rw [show (⟨b, off, none⟩ : Addr).add j = ⟨b, off + j, none⟩ by simp [Addr.add], hc j (by omega), ← svals_get ss j hj]
  exact hv
/-- append of a whole slice of texts onto a list of the call's own. -/
theorem joinS {ops : Array Oper} {rest : List Oper} {o : Oper} {a : Act} {Q : Exit → Act → World → Prop} (w : World) (hgd : o.guard = none) (s x : Operand)
    (ho : o.op = .call { callee := .builtin .append, args := #[s, x], argTypes := #[48, 48] })
    (base : Nat) (v : Value) (bs : List ByteArray) (hs : a.eval s = v) (hown : OwnS w base v bs) (xa : Option Addr) (m cap : Nat) (cs : List ByteArray) (hx : a.eval x = .slice xa m cap)
    (hr : RdS w xa m cs) (hnil : xa = none → m = 0 ∧ cap = 0) (hl : bs.length + m ≤ 8796093022208) (hbase : base ≤ w.heap.size)
    (h : ∀ v' w', OwnS w' base v' (bs ++ cs) → w.grownBy w' v.ownBlock → wpList Tryz.prog ops Q rest (a.put o.dst v') w') : wpList Tryz.prog ops Q (o :: rest) a w := by
  obtain ⟨i0, hi, hz0, hz1, hz2⟩ := info_parts infoS
  have hcl := hr.1
  cases xa with
  | none =>
    obtain ⟨rfl, rfl⟩ := hnil rfl
    have : cs = [] := List.length_eq_zero_iff.1 hcl
    subst this
    refine wpList_append_own_none hgd s x 48 ho base 9 i0 1 Tryz.underlying48 hi v bs.length (svals bs) hs hown hx ?_
    exact h v w (by rw [List.append_nil]; exact hown) (World.grownBy.refl _ _)
  | some ad =>
    refine wpList_append_own w hgd s x 48 ho base 9 i0 (.string ⟨#[]⟩) 1 16 Tryz.underlying48 hi hz0 hz1 hz2 rfl (by omega) v bs.length (svals bs) hs hown ad m cap (svals cs) hx (by rw [svals_len]; omega) (fun j u hu => hr.cellsAt ad rfl j u hu) (svals_one _) (by unfold maxLen; omega) (by omega) hbase ?_
    intro v' w' h1 h2 _
    refine h v' w' ?_ h2
    unfold OwnS
    rw [List.length_append, svals_append, hcl]
    exact h1
theorem OwnS.nil' {w : World} {base n cap : Nat} {a : Option Addr} {ss : List ByteArray} (h : OwnS w base (.slice a n cap) ss) (ha : a = none) : n = 0 ∧ cap = 0 := by
  rcases h.2 with ⟨h1, _⟩ | ⟨_, _, _, h1, _⟩
  · simp only [Value.slice.injEq] at h1; exact ⟨h1.2.1, h1.2.2⟩
  · simp only [Value.slice.injEq] at h1; rw [ha] at h1; cases h1.1
theorem OwnS.cap {w : World} {base n cap : Nat} {a : Option Addr} {ss : List ByteArray} (h : OwnS w base (.slice a n cap) ss) : n = ss.length ∧ n ≤ cap ∧ cap ≤ 9223372036854775807 := by
  rcases h.2 with ⟨h1, h2⟩ | ⟨_, _, _, h1, _, _, h3, h4, _⟩
  · simp only [Value.slice.injEq] at h1; exact ⟨by omega, by omega, by omega⟩
  · simp only [Value.slice.injEq] at h1
    unfold maxLen at h4
    exact ⟨h1.2.1, by omega, by omega⟩
theorem owns_empty (w : World) (base : Nat) (hb : base ≤ w.heap.size) : OwnS (w.alloc (.cells #[] 9)) base (.slice (some ⟨w.heap.size, 0, none⟩) 0 0) [] :=
  own_heapS (ss := []) (by simp [World.alloc, svals, -World.alloc_eq]) hb (Nat.zero_le _)
theorem OwnS.mono {w : World} {base b2 : Nat} {v : Value} {ss : List ByteArray} (h : OwnS w base v ss) (hb : b2 ≤ base) : OwnS w b2 v ss := by
  refine ⟨h.1, ?_⟩
  rcases h.2 with h1 | ⟨g, c, cur, h1, h2, h3⟩
  · exact .inl h1
  · exact .inr ⟨g, c, cur, h1, Nat.le_trans hb h2, h3⟩
theorem OwnS.blk {w : World} {base : Nat} {v : Value} {ss : List ByteArray} (h : OwnS w base v ss) : ∀ i, v.ownBlock = some i → base ≤ i ∧ i < w.heap.size := fun i e => World.ownsRow.lt h i e
end Go.Proofs.YthdblnfohbldcaaGreat.Pa
