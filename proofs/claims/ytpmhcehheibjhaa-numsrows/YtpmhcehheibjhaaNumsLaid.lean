/-
  An item's bytes.
-/
import Derived.Test.YtpmhcehheibjhaaNumsRowsMath
import Derived.Lib.AppendStr
namespace Go.Proofs.Ytpmhcehheibjhaa.Curs
open Go.ChangeShapes Go.WideShapes Go.ChangeAt Go.RowKit
open Go.Proofs.Ytpmhcehheibjhaa.Base Go.Proofs.Ytpmhcehheibjhaa.Nums
set_option linter.unusedVariables false
structure Itm where
  kind : Int
  v : Int
  n : Int
  s : ByteArray
abbrev Itm.ok (x : Itm) : Prop := ¬ (x.kind < 0 ∨ 3 < x.kind ∨ (x.kind = 0 ∧ x.v < 0) ∨ (x.kind = 1 ∧ (x.n < 1 ∨ 8 < x.n)))
/-- A number as a word of 64 bits. -/
def u64 (v : Int) : Nat := (v % 18446744073709551616).toNat
theorem u64_lt (v : Int) : u64 v < 18446744073709551616 := by unfold u64; omega
theorem u64_int (v : Int) : IntKind.u64.wrap v = (u64 v : Int) := by rw [IntKind.wrap_u64]; unfold u64; omega
def layB (x : Itm) : List (BitVec 8) := if x.kind = 0 then put x.v.toNat else if x.kind = 1 then fixed (u64 x.v) x.n.toNat else if x.kind = 2 then txtB x.s else put x.s.size ++ txtB x.s
theorem length_txtB (s : ByteArray) : (txtB s).length = s.size := by unfold txtB; rw [List.length_map]; rfl
theorem strCells_txt (s : ByteArray) : Lib.strCells s = vals (txtB s) := by
  unfold Lib.strCells vals txtB
  rw [List.map_map]
  apply List.map_congr_left
  intro b _
  rfl
def IRow (w : World) (g : Nat) (x : Itm) : Prop := w.heap[g]? = some (.cells #[.int .i64 x.kind, .int .i64 x.v, .int .i64 x.n, .string x.s] 39)
theorem IRow.c0 {w : World} {g : Nat} {x : Itm} (h : IRow w g x) : w.cell? ⟨g, 0, none⟩ = some (.int .i64 x.kind) := by rw [cell_of_row _ _ _ _ _ _ h]; rfl
theorem IRow.c1 {w : World} {g : Nat} {x : Itm} (h : IRow w g x) : w.cell? ⟨g, 1, none⟩ = some (.int .i64 x.v) := by rw [cell_of_row _ _ _ _ _ _ h]; rfl
theorem IRow.c2 {w : World} {g : Nat} {x : Itm} (h : IRow w g x) : w.cell? ⟨g, 2, none⟩ = some (.int .i64 x.n) := by rw [cell_of_row _ _ _ _ _ _ h]; rfl
theorem IRow.c3 {w : World} {g : Nat} {x : Itm} (h : IRow w g x) : w.cell? ⟨g, 3, none⟩ = some (.string x.s) := by rw [cell_of_row _ _ _ _ _ _ h]; rfl
theorem IRow.lt {w : World} {g : Nat} {x : Itm} (h : IRow w g x) : g < w.heap.size := block_lt_of_cell h.c0
theorem IRow.grown {w w' : World} {g : Nat} {x : Itm} {r : Option Nat} (h : IRow w g x) (hg : w.grownBy w' r) (hr : r ≠ some g) : IRow w' g x := by
  unfold IRow; rw [hg.block g h.lt (fun x => hr x.symm)]; exact h
theorem IRow.below {w w' : World} {g : Nat} {x : Itm} (h : IRow w g x) (hb : Below w.heap.size w w') : IRow w' g x := h.grown (below_grown hb) (by simp)
theorem IRow.new (w : World) (x : Itm) : IRow (w.alloc (.cells #[.int .i64 x.kind, .int .i64 x.v, .int .i64 x.n, .string x.s] 39)) w.heap.size x := heap_alloc_new _ _
theorem rd_bytes (w : World) (s : ByteArray) (cap : Nat) (fr : Nat × Nat) (h : s.size ≤ 140737488355328) : Rd (w.drew.alloc (.cells (bytesRow s cap) 5 fr)) (some ⟨w.heap.size, 0, none⟩) s.size (txtB s) := by
  refine ⟨length_txtB s, h, fun _ => ⟨w.heap.size, 0, rfl, by simp, fun i hi => ?_⟩⟩
  rw [Nat.zero_add]
  have e : (w.drew.alloc (.cells (bytesRow s cap) 5 fr)).cell? ⟨w.heap.size, i, none⟩ = (bytesRow s cap)[i]? := World.cell?_alloc_mark _ _ _ _ _
  rw [e]
  have hi2 : i < (txtB s).length := by rw [length_txtB]; exact hi
  unfold bytesRow
  rw [Array.getElem?_append_left (by simpa using hi), Array.getElem?_map]
  have h2 := getD_vals (txtB s) i hi2
  rw [← h2, ← strCells_txt]
  unfold Lib.strCells
  rw [List.getElem?_map, Array.getElem?_toList]
set_option maxHeartbeats 1000000 in
set_option maxRecDepth 100000 in
theorem laid_any (x : Itm) (w : World) (hok : x.ok) (hv : x.v ≤ 9223372036854775807) (hs : x.s.size ≤ 2147483647) :
    Calls Try.prog 16 #[.agg #[.int .i64 x.kind, .int .i64 x.v, .int .i64 x.n, .string x.s]] w fun e w' => ∃ a n c, e = .returned (.slice a n c) ∧ Rd w' a n (layB x) ∧ (a = none → n = 0 ∧ c = 0) ∧ Below w.heap.size w w' := by
  have HBW : Hid (Below w.heap.size w (w.alloc (.cells #[.int .i64 x.kind, .int .i64 x.v, .int .i64 x.n, .string x.s] 39))) := (Below.refl _ _).alloc (Nat.le_refl _) _
  have HT := hide (IRow.new w x)
  have HLB : Hid (layB x = if x.kind = 0 then put x.v.toNat else if x.kind = 1 then fixed (u64 x.v) x.n.toNat else if x.kind = 2 then txtB x.s else put x.s.size ++ txtB x.s) := rfl
  obtain ⟨k, v, n, s⟩ := x
  unfold Itm.ok at hok
  simp only at hok hv hs HLB HT HBW ⊢
  obtain ⟨i0, hi, hz0, hz1, hz2⟩ := info_parts info8
  by_cases h0 : k = 0
  · subst h0
    rw [if_pos rfl] at HLB
    obtain ⟨m, rfl⟩ := Int.eq_ofNat_of_zero_le (by omega : 0 ≤ v)
    have hwf : (Lit.int .i64 (m : Int)).wf = true := WalkArith.wf_i64 (by omega)
    have hp := put_nine m (by omega)
    clear hok
    go_enter Try.func16, Try.ntmps16
    go_wp2_with fail
    refine (put_any _ _ hwf).mono ?_
    rintro e w1 ⟨u, rfl, ho, hb⟩
    rw [putI_nat] at ho
    obtain ⟨ua, uc, rfl⟩ := ho.shape
    have HO := hide ho
    have HB := hide (below_trans HBW.out hb)
    clear ho hb
    go_wp2_with fail
    go_ret
    refine ⟨_, _, _, rfl, ?_, Got.nil HO.out, HB.out⟩
    rw [HLB.out, Int.toNat_natCast]; exact Got.rd HO.out (by omega)
  · have h0b : (k == 0) = false := by rw [beq_eq_false_iff_ne]; exact h0
    rw [if_neg h0] at HLB
    by_cases h1 : k = 1
    · subst h1
      rw [if_pos rfl] at HLB
      obtain ⟨m, rfl⟩ := Int.eq_ofNat_of_zero_le (by omega : 0 ≤ n)
      have hm : 1 ≤ m ∧ m ≤ 8 := by omega
      have hwf : (Lit.int .i64 (m : Int)).wf = true := WalkArith.wf_i64 (by omega)
      have hu := u64_int v
      have HUL := hide (u64_lt v)
      generalize u64 v = V at hu HUL HLB
      clear hok
      go_enter Try.func16, Try.ntmps16
      go_wp2_with fail
      refine (fixed_any V (m : Int) _ HUL.out hwf).mono ?_
      rintro e w1 ⟨u, rfl, ho, hb⟩
      rw [fixI_nat V m hm] at ho
      obtain ⟨ua, uc, rfl⟩ := ho.shape
      have HO := hide ho
      have HB := hide (below_trans HBW.out hb)
      clear ho hb
      go_wp2_with fail
      go_ret
      refine ⟨_, _, _, rfl, ?_, Got.nil HO.out, HB.out⟩
      rw [HLB.out, Int.toNat_natCast]; exact Got.rd HO.out (by rw [length_fixed]; omega)
    · have h1b : (k == 1) = false := by rw [beq_eq_false_iff_ne]; exact h1
      rw [if_neg h1] at HLB
      by_cases h2 : k = 2
      · subst h2
        rw [if_pos rfl] at HLB
        have hcv := fun (W : World) => run_bytes_of_string (P := Try.prog) W 9 22 5 s Try.underlying9 Try.underlying22 Try.underlying5
        clear hok
        go_enter Try.func16, Try.ntmps16
        go_wp2_with fail
        go_ret
        refine ⟨_, _, _, rfl, ?_, fun h => (by cases h), ?_⟩
        · rw [HLB.out]
          have h := rd_bytes (w.alloc (.cells #[.int .i64 2, .int .i64 v, .int .i64 n, .string s] 39)) s (grownCap (w.alloc (.cells #[.int .i64 2, .int .i64 v, .int .i64 n, .string s] 39)) s.size 0 5) ((bytesRow s (grownCap (w.alloc (.cells #[.int .i64 2, .int .i64 v, .int .i64 n, .string s] 39)) s.size 0 5)).size, (bytesRow s (grownCap (w.alloc (.cells #[.int .i64 2, .int .i64 v, .int .i64 n, .string s] 39)) s.size 0 5)).size + 1) (by omega)
          rw [show (w.alloc (.cells #[.int .i64 2, .int .i64 v, .int .i64 n, .string s] 39)).heap.size = w.heap.size + 1 by simp] at h
          exact h
        · exact HBW.out.drew.alloc (by show w.heap.size ≤ (w.alloc _).heap.size; simp) _
      · have h2b : (k == 2) = false := by rw [beq_eq_false_iff_ne]; exact h2
        rw [if_neg h2] at HLB
        have hsi : (s.size : Int) ≤ 2147483647 := by omega
        have hwf : (Lit.int .i64 (s.size : Int)).wf = true := WalkArith.wf_i64 (by omega)
        have hp := put_nine s.size (by omega)
        have HBA : Hid (Below w.heap.size w ((w.alloc (.cells #[.int .i64 k, .int .i64 v, .int .i64 n, .string s] 39)).alloc (.cells #[] 5))) := HBW.out.alloc HBW.out.size _
        have HT1 := hide (HT.out.below ((Below.refl _ _).alloc (Nat.le_refl _) (.cells #[] 5)))
        have HE1 := hide (own_empty (w.alloc (.cells #[.int .i64 k, .int .i64 v, .int .i64 n, .string s] 39)) w.heap.size HBW.out.size)
        have HZ : Hid ((w.alloc (.cells #[.int .i64 k, .int .i64 v, .int .i64 n, .string s] 39)).heap.size = w.heap.size + 1) := by show _ = _; simp
        rw [HZ.out] at HE1
        clear hok
        go_enter Try.func16, Try.ntmps16
        go_wp2_with fail
        refine (put_any _ _ hwf).mono ?_
        rintro e w1 ⟨u, rfl, ho, hb⟩
        rw [putI_nat] at ho
        obtain ⟨ua, un, uc, rfl, HUN⟩ : ∃ a n c, u = .slice a n c ∧ Hid (n = (put s.size).length) := by obtain ⟨a, c, e⟩ := ho.shape; exact ⟨a, _, c, e, rfl⟩
        have HO := hide ho
        have HB := hide (below_trans HBA.out hb)
        have HE2 : Hid (Own w1 w.heap.size (.slice (some ⟨w.heap.size + 1, 0, none⟩) 0 0) []) := (show Own _ w.heap.size (.slice (some ⟨w.heap.size + 1, 0, none⟩) 0 0) [] from HE1.out).below hb
        have HT2 := hide (HT1.out.below hb)
        have k3 := HT2.out.c3
        have hs1 := HB.out.size
        clear ho hb HE1 HT1 HBA
        go_wp2_with (first
          | (at_builtin; refine join _ rfl _ _ rfl w.heap.size _ [] rfl HE2.out ua un uc (put s.size) rfl (Got.rd HO.out (by omega)) (Got.nil HO.out) (by have := HUN.out; simp; omega) (by omega) ?_
             intro v2 w2 ho2 hg2
             have HO2 : Hid (Own w2 w.heap.size v2 (put s.size)) := ho2
             have HB2 : Hid (Below w.heap.size w w2) := HB.out.grown hg2 HB.out.size (own_blk HE2.out)
             have HT3 := hide (HT2.out.grown hg2 (fun e => by have e2 : w.heap.size + 1 = w.heap.size := Option.some.inj e; omega))
             have k4 := HT3.out.c3
             obtain ⟨v2a, v2n, v2c, hv2, HN2⟩ : ∃ a n c, v2 = .slice a n c ∧ Hid (n = (put s.size).length) := by obtain ⟨a, c, e⟩ := ho2.shape; exact ⟨a, _, c, e, rfl⟩
             subst hv2
             have hs2 := HB2.out.size
             clear ho2 hg2)
          | (at_builtin; (refine Lib.wpList_append_own_string (P := Try.prog) _ rfl _ _ 22 9 rfl w.heap.size 5 i0 Try.underlying22 Try.underlying9 hi hz0 hz1 hz2 (.slice v2a v2n v2c) (put s.size).length (vals (put s.size)) rfl HO2.out s rfl (by unfold maxLen; omega) (by omega) (by omega) ?_)
             intro v3 w3 ho3 hg3 _
             rw [strCells_txt] at ho3
             have HO3 : Hid (Own w3 w.heap.size v3 (put s.size ++ txtB s)) := own_append ho3 (by rw [length_txtB])
             have HB3 : Hid (Below w.heap.size w w3) := HB2.out.grown hg3 HB2.out.size (own_blk HO2.out)
             clear ho3 hg3))
        obtain ⟨v3a, v3c, hv3⟩ := HO3.out.shape
        subst hv3
        go_ret
        refine ⟨_, _, _, rfl, ?_, Got.nil HO3.out, HB3.out⟩
        rw [HLB.out]
        exact Got.rd HO3.out (by simp [length_txtB]; omega)
end Go.Proofs.Ytpmhcehheibjhaa.Curs
