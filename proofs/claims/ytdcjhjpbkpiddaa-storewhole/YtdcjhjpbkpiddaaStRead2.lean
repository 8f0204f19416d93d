/-
  A reading through the store, and the meter.
-/
import Derived.Test.YtdcjhjpbkpiddaaStRead
namespace Go.Proofs.Ytdcjhjpbkpiddaa.St
open Go.ChangeShapes Go.WideShapes Go.ChangeAt Go.RowKit Go.MuLone
open Go.Proofs.Ytdcjhjpbkpiddaa.Base
set_option linter.unusedVariables false
set_option maxHeartbeats 1000000
theorem count_any (s bm : Nat) (R B G : Int) (n : Nat) (w : World) (h : SAt w s 1 bm R B G) (hn : n ≤ 268435456) (hG : 0 ≤ G) (hG2 : G ≤ 268435456) :
    Calls Try.prog 29 #[.pointer (some ⟨s, 0, none⟩), .int .i64 (n : Int)] w fun e w' => e = .returned (.tuple #[]) ∧ SAt w' s 1 bm (wrap64 (R + 1)) (wrap64 (B + (n : Int))) (max G (n : Int)) ∧ w.grownBy w' (some s) := by
  obtain ⟨c0, c1, c2, c3, c4, c5⟩ := h.cells
  have f3 := h.frozen 3
  have f4 := h.frozen 4
  have f5 := h.frozen 5
  have h1 := h.reads (wrap64 (R + 1))
  have h2 := h1.bytes (wrap64 (B + (n : Int)))
  have h3 := h2.great (max G (n : Int))
  have HF := hide h3
  have hni : (n : Int) ≤ 268435456 := by omega
  clear h1 h2 h3
  go_enter Try.func29, Try.ntmps29
  go_wp2_with fail
  go_end0
  exact ⟨rfl, HF.out, grown_cell (grown_cell (grown_cell (World.grownBy.refl _ _) _ _) _ _) _ _⟩
/-- What the meter says behind a reading. -/
def metered (R B G : Int) (t : List (BitVec 8) × Int) : Int × Int × Int := if t.2 = 0 then (wrap64 (R + 1), wrap64 (B + (t.1.length : Int)), max G (t.1.length : Int)) else (R, B, G)
theorem readOf_len (bs : List (BitVec 8)) (at_ n : Int) : (readOf bs at_ n).1.length ≤ bs.length := by
  unfold readOf; split
  · simp
  · show (List.take _ (List.drop _ bs)).length ≤ _
    rw [List.length_take, List.length_drop]; omega
theorem enter58 (args : Array Value) (W : World) : (callFunc 27 args).run Try.prog W = .ok (.enter 27 args) W := enter_of Try.func27 (by kernel_rfl) (by kernel_rfl) args W
theorem read1_open {sp : Int} {sd : Bool} (b x1 x2 x3 x4 : Nat) (v old sv : Value) (at_ n : Int) (w : World) (h : BAt w b v 1 sp sd) (c1 : w.cell? ⟨x1, 0, none⟩ = some (.int .i64 at_)) (c2 : w.cell? ⟨x2, 0, none⟩ = some (.int .i64 n)) (c3 : w.cell? ⟨x3, 0, none⟩ = some old) (f3 : w.frozen? ⟨x3, 0, none⟩ = false) :
    Calls Try.prog 27 #[.pointer (some ⟨b, 0, none⟩), .pointer (some ⟨x1, 0, none⟩), .pointer (some ⟨x2, 0, none⟩), .pointer (some ⟨x3, 0, none⟩), .pointer (some ⟨x4, 0, none⟩)] w fun e w' => e = .returned (.int .i64 53) ∧ w' = w.setCell ⟨x3, 0, none⟩ (.slice none 0 0) := by
  have HR := hide (readB_open b v at_ n w h)
  clear h
  go_enter Try.func27, Try.ntmps27
  go_wp2_with (go_at_call 28; refine HR.out.mono ?_; rintro e w3 ⟨rfl, rfl⟩)
  go_ret
  exact ⟨rfl, rfl⟩
set_option maxRecDepth 100000 in
theorem read1_any (s bm b x1 x2 x3 x4 base : Nat) (R B G : Int) (va : Option Addr) (len cap : Nat) (bs : List (BitVec 8)) (old : Value) (at_ n : Int) (w : World) (hS : SAt w s 1 bm R B G) (h : BAt w b (.slice va len cap) 2 (-1) false) (ho : Own w base (.slice va len cap) bs) (hl : len ≤ 268435456) (hn : 0 ≤ n) (hG : 0 ≤ G) (hG2 : G ≤ 268435456)
    (c1 : w.cell? ⟨x1, 0, none⟩ = some (.int .i64 at_)) (c2 : w.cell? ⟨x2, 0, none⟩ = some (.int .i64 n)) (c3 : w.cell? ⟨x3, 0, none⟩ = some old) (f3 : w.frozen? ⟨x3, 0, none⟩ = false) (c4 : w.cell? ⟨x4, 0, none⟩ = some (.pointer (some ⟨s, 0, none⟩))) (l3 : x3 < w.heap.size) (l4 : x4 < w.heap.size) (n3 : x3 ≠ s) (n34 : x3 ≠ x4) (n4 : x4 ≠ s) :
    Calls Try.prog 27 #[.pointer (some ⟨b, 0, none⟩), .pointer (some ⟨x1, 0, none⟩), .pointer (some ⟨x2, 0, none⟩), .pointer (some ⟨x3, 0, none⟩), .pointer (some ⟨x4, 0, none⟩)] w fun e w' => ∃ v, e = .returned (.int .i64 (readOf bs at_ n).2) ∧ w'.cell? ⟨x3, 0, none⟩ = some v ∧ Own w' w.heap.size v (readOf bs at_ n).1 ∧ SAt w' s 1 bm (metered R B G (readOf bs at_ n)).1 (metered R B G (readOf bs at_ n)).2.1 (metered R B G (readOf bs at_ n)).2.2 ∧ Kept2 w w' (some s) (some x3) := by
  have hlen := (Got.cap ho).2
  have HR := hide (readB_any b va len cap bs at_ n w base h ho hl hn)
  have hrl := readOf_len bs at_ n
  have HS := hide hS
  have hsl := hS.lt
  clear h ho hS
  obtain ⟨T, hT⟩ : ∃ T, readOf bs at_ n = T := ⟨_, rfl⟩
  rw [hT] at HR hrl ⊢
  obtain ⟨tx, tr⟩ := T
  simp only at HR hrl ⊢
  clear hT
  by_cases hr0 : tr = 0
  · subst hr0
    have hm : metered R B G (tx, 0) = (wrap64 (R + 1), wrap64 (B + (tx.length : Int)), max G (tx.length : Int)) := by unfold metered; rw [if_pos rfl]
    rw [hm]
    clear hm
    go_enter Try.func27, Try.ntmps27
    go_wp2_with (first
      | (go_at_call 28; refine HR.out.mono ?_; rintro e w3 ⟨v, rfl, ho3, hb3⟩
         obtain ⟨a3, k3, rfl⟩ := ho3.shape
         have HO3 := hide ho3
         have HB3 := hide hb3
         have d3 : w3.cell? ⟨x3, 0, none⟩ = some old := (hb3.cell (p := ⟨x3, 0, none⟩) l3).trans c3
         have e3 : w3.frozen? ⟨x3, 0, none⟩ = false := (hb3.frozen (p := ⟨x3, 0, none⟩) l3).trans f3
         have d4 : w3.cell? ⟨x4, 0, none⟩ = some (.pointer (some ⟨s, 0, none⟩)) := (hb3.cell (p := ⟨x4, 0, none⟩) l4).trans c4
         have d5 : (w3.setCell ⟨x3, 0, none⟩ (.slice a3 tx.length k3)).cell? ⟨x4, 0, none⟩ = some (.pointer (some ⟨s, 0, none⟩)) := (World.cell?_setCell_other _ ⟨x3, 0, none⟩ ⟨x4, 0, none⟩ _ (fun e => n34 (congrArg Addr.block e))).trans d4
         have d6 : (w3.setCell ⟨x3, 0, none⟩ (.slice a3 tx.length k3)).cell? ⟨x3, 0, none⟩ = some (.slice a3 tx.length k3) := World.cell?_setCell_same _ _ _ d3
         have HG4 : Hid (w3.grownBy (w3.setCell ⟨x3, 0, none⟩ (.slice a3 tx.length k3)) (some x3)) := grown_cell (World.grownBy.refl _ _) _ _
         have HS4 : Hid (SAt (w3.setCell ⟨x3, 0, none⟩ (.slice a3 tx.length k3)) s 1 bm R B G) := (HS.out.grown (below_grown hb3) (by simp)).grown HG4.out (by simpa using n3)
         have HC4 := hide (count_any s bm R B G tx.length _ HS4.out (by omega) hG hG2)
         clear ho3 hb3)
      | (go_at_call 29; refine HC4.out.mono ?_; rintro e w5 ⟨rfl, hs5, hg5⟩; have HS5 := hide hs5; have HG5 := hide hg5; clear hs5 hg5))
    go_ret
    refine ⟨_, rfl, HG5.out.cell d6 (by simpa using n3), ?_, HS5.out, ?_⟩
    · refine keep (keep HO3.out HG4.out (fun i j e e2 => ?_)) HG5.out (fun i j e e2 => ?_)
      · have h1 := (blk HO3.out i e).1; have h2 := Option.some.inj e2; omega
      · have h1 := (blk HO3.out i e).1; have h2 := Option.some.inj e2; omega
    · exact kept2_trans (kept2_trans (kept2_below HB3.out _ _) (kept2_grown HG4.out (.inr (.inl rfl)))) (kept2_grown HG5.out (.inl rfl))
  · have hm : metered R B G (tx, tr) = (R, B, G) := by unfold metered; rw [if_neg hr0]
    rw [hm]
    have hrb : (tr == 0) = false := by rw [beq_eq_false_iff_ne]; exact hr0
    clear hm hr0
    go_enter Try.func27, Try.ntmps27
    go_wp2_with (go_at_call 28; refine HR.out.mono ?_; rintro e w3 ⟨v, rfl, ho3, hb3⟩
                 obtain ⟨a3, k3, rfl⟩ := ho3.shape
                 have HO3 := hide ho3
                 have HB3 := hide hb3
                 have d3 : w3.cell? ⟨x3, 0, none⟩ = some old := (hb3.cell (p := ⟨x3, 0, none⟩) l3).trans c3
                 have e3 : w3.frozen? ⟨x3, 0, none⟩ = false := (hb3.frozen (p := ⟨x3, 0, none⟩) l3).trans f3
                 have HD6 : Hid ((w3.setCell ⟨x3, 0, none⟩ (.slice a3 tx.length k3)).cell? ⟨x3, 0, none⟩ = some (.slice a3 tx.length k3)) := World.cell?_setCell_same _ _ _ d3
                 have HG4 : Hid (w3.grownBy (w3.setCell ⟨x3, 0, none⟩ (.slice a3 tx.length k3)) (some x3)) := grown_cell (World.grownBy.refl _ _) _ _
                 have HS4 : Hid (SAt (w3.setCell ⟨x3, 0, none⟩ (.slice a3 tx.length k3)) s 1 bm R B G) := (HS.out.grown (below_grown hb3) (by simp)).grown HG4.out (by simpa using n3)
                 clear ho3 hb3)
    go_ret
    refine ⟨_, rfl, HD6.out, ?_, HS4.out, kept2_trans (kept2_below HB3.out _ _) (kept2_grown HG4.out (.inr (.inl rfl)))⟩
    exact keep HO3.out HG4.out (fun i j e e2 => by have h1 := (blk HO3.out i e).1; have h2 := Option.some.inj e2; omega)
end Go.Proofs.Ytdcjhjpbkpiddaa.St
