/-
  putWords: one bit.
-/
import Derived.Test.YthdblnfohbldcaaGreatHuffE2
import Derived.Test.YthdblnfohbldcaaGreatBase2
import Derived.Deep.RegionHeld
namespace Go.Proofs.YthdblnfohbldcaaGreat.Huff
open Go.ChangeShapes Go.WideShapes Go.ChangeAt Go.RowKit
open Go.Proofs.YthdblnfohbldcaaGreat.Base
set_option linter.unusedVariables false
/-- The three variables of the closure: what is gathered, how many bits of it, the bytes so far. -/
structure Bx (w : World) (base bg bf bo : Nat) (B : List (BitVec 8)) (g f : Nat) : Prop where
  g : w.cell? ⟨bg, 0, none⟩ = some (.int .u8 (g : Int))
  f : w.cell? ⟨bf, 0, none⟩ = some (.int .i64 (f : Int))
  o : ∃ gg cc, w.cell? ⟨bo, 0, none⟩ = some (.slice (some ⟨gg, 0, none⟩) B.length cc) ∧ Own w base (.slice (some ⟨gg, 0, none⟩) B.length cc) B ∧ gg ≠ bg ∧ gg ≠ bf ∧ gg ≠ bo
  zg : w.frozen? ⟨bg, 0, none⟩ = false
  zf : w.frozen? ⟨bf, 0, none⟩ = false
  zo : w.frozen? ⟨bo, 0, none⟩ = false
  ng : base ≤ bg ∧ bg < w.heap.size
  nf : base ≤ bf ∧ bf < w.heap.size
  no : base ≤ bo ∧ bo < w.heap.size
  gf : bg ≠ bf
  go : bg ≠ bo
  fo : bf ≠ bo
theorem size_setCell (w : World) (p : Addr) (v : Value) : (w.setCell p v).heap.size = w.heap.size := by simp [World.setCell]
theorem grown_refl (w : World) (r : Option Nat) : w.grownBy w r := ⟨rfl, rfl, rfl, Nat.le_refl _, fun _ _ _ => rfl⟩
theorem Bx.drew {w : World} {base bg bf bo : Nat} {B : List (BitVec 8)} {g f : Nat} (h : Bx w base bg bf bo B g f) : Bx w.drew base bg bf bo B g f :=
  ⟨h.g, h.f, h.o, h.zg, h.zf, h.zo, h.ng, h.nf, h.no, h.gf, h.go, h.fo⟩
theorem Bx.drewN {w : World} {base bg bf bo : Nat} {B : List (BitVec 8)} {g f : Nat} (h : Bx w base bg bf bo B g f) (n : Nat) : Bx (w.drewN n) base bg bf bo B g f :=
  ⟨h.g, h.f, h.o, h.zg, h.zf, h.zo, h.ng, h.nf, h.no, h.gf, h.go, h.fo⟩
theorem Bx.setG {w : World} {base bg bf bo : Nat} {B : List (BitVec 8)} {g f : Nat} (h : Bx w base bg bf bo B g f) (g' : Nat) : Bx (w.setCell ⟨bg, 0, none⟩ (.int .u8 (g' : Int))) base bg bf bo B g' f := by
  obtain ⟨gg, cc, h1, h2, h3, h4, h5⟩ := h.o
  exact ⟨World.cell?_setCell_same _ _ _ h.g, by rw [World.cell?_setCell_far _ _ _ _ h.gf]; exact h.f,
    ⟨gg, cc, by rw [World.cell?_setCell_far _ _ _ _ h.go]; exact h1, h2.other (grown_cell (grown_refl _ _) 0 _) h3, h3, h4, h5⟩,
    (World.frozen?_setCell _ _ _ _).trans h.zg, (World.frozen?_setCell _ _ _ _).trans h.zf, (World.frozen?_setCell _ _ _ _).trans h.zo,
    by rw [size_setCell]; exact h.ng, by rw [size_setCell]; exact h.nf, by rw [size_setCell]; exact h.no, h.gf, h.go, h.fo⟩
theorem Bx.setF {w : World} {base bg bf bo : Nat} {B : List (BitVec 8)} {g f : Nat} (h : Bx w base bg bf bo B g f) (f' : Nat) : Bx (w.setCell ⟨bf, 0, none⟩ (.int .i64 (f' : Int))) base bg bf bo B g f' := by
  obtain ⟨gg, cc, h1, h2, h3, h4, h5⟩ := h.o
  exact ⟨by rw [World.cell?_setCell_far _ _ _ _ h.gf.symm]; exact h.g, World.cell?_setCell_same _ _ _ h.f,
    ⟨gg, cc, by rw [World.cell?_setCell_far _ _ _ _ h.fo]; exact h1, h2.other (grown_cell (grown_refl _ _) 0 _) h4, h3, h4, h5⟩,
    (World.frozen?_setCell _ _ _ _).trans h.zg, (World.frozen?_setCell _ _ _ _).trans h.zf, (World.frozen?_setCell _ _ _ _).trans h.zo,
    by rw [size_setCell]; exact h.ng, by rw [size_setCell]; exact h.nf, by rw [size_setCell]; exact h.no, h.gf, h.go, h.fo⟩
/-- The bytes have grown by one, and the box says so. -/
theorem Bx.setO {w w' : World} {base bg bf bo gg cc g' c' : Nat} {B : List (BitVec 8)} {g f : Nat} (h : Bx w base bg bf bo B g f) (h1 : w.cell? ⟨bo, 0, none⟩ = some (.slice (some ⟨gg, 0, none⟩) B.length cc)) (c : BitVec 8) (o : Obj)
    (ho : Own w' base (.slice (some ⟨g', 0, none⟩) (B.length + 1) c') (B ++ [c])) (hg : gg = g' ∧ (w.alloc o).grownBy w' (some g') ∨ (w.alloc o).heap.size ≤ g' ∧ (w.alloc o).grownBy w' none) :
    Bx (w'.setCell ⟨bo, 0, none⟩ (.slice (some ⟨g', 0, none⟩) (B.length + 1) c')) base bg bf bo (B ++ [c]) g f ∧ Below base w w' ∧ (∀ k, k < w.heap.size → k ≠ gg → w'.cell? ⟨k, 0, none⟩ = w.cell? ⟨k, 0, none⟩) ∧ (∀ k, k < w.heap.size → k ≠ gg → w'.frozen? ⟨k, 0, none⟩ = w.frozen? ⟨k, 0, none⟩) := by
  obtain ⟨g2, c2, e1, h2, h3, h4, h5⟩ := h.o
  rw [h1] at e1
  simp only [Option.some.injEq, Value.slice.injEq, Addr.mk.injEq, and_true, true_and] at e1
  obtain ⟨rfl, rfl⟩ := e1
  have hs : (w.alloc o).heap.size = w.heap.size + 1 := by simp
  have hsz : w.heap.size ≤ w'.heap.size := by
    rcases hg with ⟨_, hg⟩ | ⟨_, hg⟩ <;> (have := hg.size; omega)
  have hne : ∀ k, k < w.heap.size → k ≠ gg → k ≠ g' := by
    intro k hk hn e
    rcases hg with ⟨hg, _⟩ | ⟨hg, _⟩ <;> omega
  have hb : ∀ k, k < w.heap.size → k ≠ gg → w'.heap[k]? = w.heap[k]? := by
    intro k hk hn
    have e : (w.alloc o).heap[k]? = w.heap[k]? := Below.heap_alloc w o k hk
    rcases hg with ⟨e2, hg⟩ | ⟨_, hg⟩
    · rw [hg.block k (by omega) (by intro e3; have := Option.some.inj e3; omega), e]
    · rw [hg.block k (by omega) (by intro e3; cases e3), e]
  have hc : ∀ k, k < w.heap.size → k ≠ gg → w'.cell? ⟨k, 0, none⟩ = w.cell? ⟨k, 0, none⟩ := fun k hk hn => World.cell?_of_block (w := w) (hb k hk hn)
  have hz : ∀ k, k < w.heap.size → k ≠ gg → w'.frozen? ⟨k, 0, none⟩ = w.frozen? ⟨k, 0, none⟩ := fun k hk hn => World.frozen?_of_block (w := w) (hb k hk hn)
  have hno := h.no
  have hng := h.ng
  have hnf := h.nf
  have ho2 := World.ownsRow.lt ho g' rfl
  have hgb := (World.ownsRow.lt h2 gg rfl).1
  have hos : w'.os = w.os ∧ w'.tape = w.tape ∧ w'.output = w.output := by
    rcases hg with ⟨_, hg⟩ | ⟨_, hg⟩ <;> exact ⟨hg.os, hg.tape, hg.output⟩
  refine ⟨⟨?_, ?_, ⟨g', c', ?_, ?_, ?_, ?_, ?_⟩, ?_, ?_, ?_, ?_, ?_, ?_, h.gf, h.go, h.fo⟩, ?_, hc, hz⟩
  · rw [World.cell?_setCell_far _ _ _ _ h.go.symm, hc bg hng.2 h3.symm]; exact h.g
  · rw [World.cell?_setCell_far _ _ _ _ h.fo.symm, hc bf hnf.2 h4.symm]; exact h.f
  · rw [List.length_append, List.length_singleton]
    exact World.cell?_setCell_same _ _ _ ((hc bo hno.2 h5.symm).trans h1)
  · rw [List.length_append, List.length_singleton]
    exact ho.other (grown_cell (grown_refl _ _) 0 _) (hne bo hno.2 h5.symm).symm
  · exact (hne bg hng.2 h3.symm).symm
  · exact (hne bf hnf.2 h4.symm).symm
  · exact (hne bo hno.2 h5.symm).symm
  · rw [World.frozen?_setCell, hz bg hng.2 h3.symm]; exact h.zg
  · rw [World.frozen?_setCell, hz bf hnf.2 h4.symm]; exact h.zf
  · rw [World.frozen?_setCell, hz bo hno.2 h5.symm]; exact h.zo
  · rw [size_setCell]; omega
  · rw [size_setCell]; omega
  · rw [size_setCell]; omega
  · exact ⟨hos.1, hos.2.1, hos.2.2, hsz, fun k hk => hb k (by omega) (by omega)⟩
theorem undrew {w w' : World} {r : Option Nat} (h : w.drew.grownBy w' r) : w.grownBy w' r := ⟨h.os, h.tape, h.output, h.size, h.block⟩
theorem Bx.pushed {w w' : World} {base bg bf bo gg cc g' c' : Nat} {B : List (BitVec 8)} {g f : Nat} (h : Bx w base bg bf bo B g f) (h1 : w.cell? ⟨bo, 0, none⟩ = some (.slice (some ⟨gg, 0, none⟩) B.length cc)) (c : BitVec 8) (o : Obj)
    (ho : Own w' base (.slice (some ⟨g', 0, none⟩) (B.length + 1) c') (B ++ [c])) (hg : (Value.slice (some ⟨gg, 0, none⟩) B.length cc).ownBlock = some g' ∧ (w.alloc o).drew.grownBy w' (some g') ∨ (w.alloc o).drew.heap.size ≤ g' ∧ (w.alloc o).drew.grownBy w' none)
    (n1 : gg ≠ bg) (n2 : gg ≠ bf) (n3 : gg ≠ bo) :
    Hid (Bx (w'.setCell ⟨bo, 0, none⟩ (.slice (some ⟨g', 0, none⟩) (B.length + 1) c')) base bg bf bo (B ++ [c]) g f) ∧ Hid (Below base w w') ∧
    w'.cell? ⟨bg, 0, none⟩ = some (.int .u8 (g : Int)) ∧ w'.cell? ⟨bf, 0, none⟩ = some (.int .i64 (f : Int)) ∧ w'.cell? ⟨bo, 0, none⟩ = some (.slice (some ⟨gg, 0, none⟩) B.length cc) ∧
    w'.frozen? ⟨bg, 0, none⟩ = false ∧ w'.frozen? ⟨bf, 0, none⟩ = false ∧ w'.frozen? ⟨bo, 0, none⟩ = false := by
  obtain ⟨hA, hB, hC, hD⟩ := h.setO h1 c o ho (hg.imp (fun h => ⟨Option.some.inj h.1, undrew h.2⟩) (fun h => ⟨h.1, undrew h.2⟩))
  exact ⟨hA, hB, (hC bg h.ng.2 n1.symm).trans h.g, (hC bf h.nf.2 n2.symm).trans h.f, (hC bo h.no.2 n3.symm).trans h1, (hD bg h.ng.2 n1.symm).trans h.zg, (hD bf h.nf.2 n2.symm).trans h.zf, (hD bo h.no.2 n3.symm).trans h.zo⟩
/-- One bit more. -/
def bstep (s : List (BitVec 8) × Nat × Nat) (bit : Nat) : List (BitVec 8) × Nat × Nat :=
  if s.2.2 = 7 then (s.1 ++ [BitVec.ofNat 8 (s.2.1 + bit * 128)], 0, 0) else (s.1, s.2.1 + bit * 2 ^ s.2.2, s.2.2 + 1)
def orAt (f g b : Nat) : Bool := decide (bits .or .u8 (Int.ofNat g) (IntKind.u8.wrap (IntKind.u8.wrap (Int.ofNat b) * 2 ^ f)) = Int.ofNat (g + b * 2 ^ f))
theorem or_all : (List.range 8).all (fun f => (List.range (2 ^ f)).all fun g => orAt f g 0 && orAt f g 1) = true := by decide +kernel
theorem or_bit (g bit f : Nat) (hb : bit ≤ 1) (hf : f < 8) (hg : g < 2 ^ f) : bits .or .u8 (g : Int) (IntKind.u8.wrap (IntKind.u8.wrap (bit : Int) * 2 ^ f)) = ((g + bit * 2 ^ f : Nat) : Int) := by
  have h := List.all_eq_true.1 (List.all_eq_true.1 or_all f (List.mem_range.2 hf)) g (List.mem_range.2 hg)
  simp only [Bool.and_eq_true] at h
  have e : bit = 0 ∨ bit = 1 := by omega
  rcases e with rfl | rfl
  · exact of_decide_eq_true h.1
  · exact of_decide_eq_true h.2
set_option maxHeartbeats 2000000 in
set_option maxRecDepth 100000 in
theorem putBit_any (bit g f : Nat) (base bg bf bo : Nat) (B : List (BitVec 8)) (w : World) (hbit : bit ≤ 1) (hf : f < 8) (hg : g < 2 ^ f) (hB : B.length + 1 ≤ 140737488355328) (h : Bx w base bg bf bo B g f) :
    Calls Tryz.prog 100 #[.int .u32 (bit : Int), .pointer (some ⟨bg, 0, none⟩), .pointer (some ⟨bf, 0, none⟩), .pointer (some ⟨bo, 0, none⟩)] w fun e w' => e = .returned (.tuple #[]) ∧ Bx w' base bg bf bo (bstep (B, g, f) bit).1 (bstep (B, g, f) bit).2.1 (bstep (B, g, f) bit).2.2 ∧ Below base w w' := by
  obtain ⟨gg, cc, h3, hown, n1, n2, n3⟩ := h.o
  have h1 := h.g
  have h2 := h.f
  have k1 := h.zg
  have k2 := h.zf
  have k3 := h.zo
  have m1 := h.gf
  have m2 := h.go
  have m3 := h.fo
  have HG := hide h.ng
  have HF := hide h.nf
  have HO := hide h.no
  have HN := hide (or_bit g bit f hbit hf hg)
  have HH := hide h
  have HGL := hide hg
  clear h hown hg
  by_cases hf7 : f = 7
  · subst hf7
    have HS : Hid (bstep (B, g, 7) bit = (B ++ [BitVec.ofNat 8 (g + bit * 128)], 0, 0)) := if_pos rfl
    rw [HS.out]
    have HM : Hid (((BitVec.ofNat 8 (g + bit * 128)).toNat : Int) = ((g + bit * 2 ^ 7 : Nat) : Int)) := by
      show _ = _
      have := HGL.out
      rw [BitVec.toNat_ofNat]; omega
    generalize BitVec.ofNat 8 (g + bit * 128) = X at HM HS ⊢
    generalize g + bit * 2 ^ 7 = N at HN HS HM ⊢
    obtain ⟨W0, hW0⟩ : ∃ W0, ((w.setCell ⟨bg, 0, none⟩ (.int .u8 (N : Int))).setCell ⟨bf, 0, none⟩ (.int .i64 8)) = W0 := ⟨_, rfl⟩
    have HX1 : Hid (Bx W0 base bg bf bo B N 8) := by rw [← hW0]; exact (HH.out.setG N).setF 8
    have HX2 : Hid (Below base w W0) := by rw [← hW0]; exact ((Below.refl _ _).setCell HG.out.1 _).setCell HF.out.1 _
    have HX3 : Hid (W0.cell? ⟨bo, 0, none⟩ = some (.slice (some ⟨gg, 0, none⟩) B.length cc)) := by
      show _ = _
      rw [← hW0, World.cell?_setCell_far _ _ _ _ m3, World.cell?_setCell_far _ _ _ _ m2]; exact h3
    have HXO : Hid (Own W0 base (.slice (some ⟨gg, 0, none⟩) B.length cc) B) := by
      obtain ⟨g2, c2, e1, h2, _⟩ := HX1.out.o
      rw [HX3.out] at e1
      simp only [Option.some.injEq, Value.slice.injEq, Addr.mk.injEq, and_true, true_and] at e1
      obtain ⟨rfl, rfl⟩ := e1
      exact h2
    have HW := hide hW0
    have HSZ : Hid (W0.heap.size = w.heap.size) := by show _ = _; rw [← hW0, size_setCell, size_setCell]
    clear hW0
    go_enter Tryz.func100, Tryz.ntmps100
    go_wp2_with fail
    go_region_with (fail)
    all_goals
      have HN2 := HN.out
      simp only [Int.reducePow] at HN2 ⊢
      rw [HN2]
      clear HN2
      go_wp2_with (at_builtin
                   rw [HW.out]
                   refine push2 _ rfl _ _ rfl base (.slice (some ⟨gg, 0, none⟩) B.length cc) B rfl (HXO.out.below ((Below.refl W0.heap.size W0).alloc (Nat.le_refl _) _).drew) ⟨w.heap.size, 0, none⟩ 1 X rfl (by rw [HM.out, ← HSZ.out]; exact cell_one_new W0 _ _ 0 _ rfl) hB (by have := HG.out; have := HSZ.out; show base ≤ (W0.alloc _).heap.size; simp; omega) ?_
                   intro g' c' w9 ho9 hg9
                   obtain ⟨HS9, HS8, c1, c2, c3, c4, c5, c6⟩ := HX1.out.pushed HX3.out X _ ho9 hg9 n1 n2 n3
                   clear ho9 hg9)
      go_end0
      exact ⟨rfl, (HS9.out.setG 0).setF 0, (((HX2.out.trans HS8.out).setCell HO.out.1 _).setCell HG.out.1 _).setCell HF.out.1 _⟩
  · have f7 : f < 7 := by omega
    have HS : Hid (bstep (B, g, f) bit = (B, g + bit * 2 ^ f, f + 1)) := if_neg hf7
    rw [HS.out]
    have hf8 : ((f : Int) + 1 == 8) = false := by rw [beq_eq_false_iff_ne]; omega
    clear hf7
    generalize g + bit * 2 ^ f = N at HN HS ⊢
    go_enter Tryz.func100, Tryz.ntmps100
    go_wp2_with fail
    go_region_with (fail)
    all_goals
      rw [HN.out]
      go_wp2_with fail
      go_end0
      exact ⟨rfl, ((HH.out.setG N).setF (f + 1)).drew, (((Below.refl _ _).setCell HG.out.1 _).setCell HF.out.1 _).drew⟩
end Go.Proofs.YthdblnfohbldcaaGreat.Huff
