/-
  A change of a blob's length.
-/
import Derived.Test.YtndodbfhigejfabStSize
import Derived.Laws.CopyRow
namespace Go.Proofs.Ytndodbfhigejfab.St
open Go.ChangeShapes Go.WideShapes Go.ChangeAt Go.RowKit Go.MuLone
open Go.Proofs.Ytndodbfhigejfab.Base
set_option linter.unusedVariables false
set_option maxHeartbeats 1000000
theorem make8 (n : Nat) : madeCells #[Value.int .u8 0] n = (vals (List.replicate n 0)).toArray := by
  apply Array.ext
  · rw [size_madeCells]; simp [vals]
  · intro k h1 h2
    simp [madeCells, vals, V8, Nat.mod_one]
theorem make_row_u8 (n : Nat) (m : Int) (hm : m = (n : Int)) (h : n ≤ 140737488355328) : ∀ W, (Instr.makeSlice 32 (.int .i64 m) (.int .i64 m)).run Try.prog W = .ok (.slice (some ⟨W.heap.size, 0, none⟩) n n) (W.alloc (.cells (vals (List.replicate n 0)).toArray 5)) := by
  intro W
  subst hm
  rw [← make8]
  exact run_make_row' 32 5 (.int .u8 0) 1 Try.underlying32 info8 rfl .i64 .i64 n (by omega) (by omega) W
theorem resized_nil (m : Nat) : resized [] m = List.replicate m 0 := by unfold resized; simp
theorem copy_res (g m len cap : Nat) (va : Option Addr) (bs : List (BitVec 8)) (w1 : World) (hg : w1.heap[g]? = some (.cells (vals (List.replicate m 0)).toArray 5)) (hr : Rd w1 va len bs) (hnil : va = none → len = 0 ∧ cap = 0) (hm : m ≤ 140737488355328) (hlast : w1.heap.size = g + 1) :
    ∃ w2, (∃ k : Nat, ∀ ty, (Builtin.copy_ #[32, 32] ty #[.slice (some ⟨g, 0, none⟩) m m, .slice va len cap]).run Try.prog w1 = .ok (.int .i64 (k : Int)) w2) ∧ Own w2 g (.slice (some ⟨g, 0, none⟩) m m) (resized bs m) ∧ w1.grownBy w2 (some g) := by
  cases va with
  | none =>
    obtain ⟨rfl, rfl⟩ := hnil rfl
    have hb : bs = [] := List.length_eq_zero_iff.1 hr.1
    subst hb
    refine ⟨w1, ⟨0, fun ty => run_copy_nil Try.prog w1 32 32 ty 5 ⟨g, 0, none⟩ m m Try.underlying32 (by kernel_rfl)⟩, ?_, World.grownBy.refl _ _⟩
    rw [resized_nil]
    have h := own_heap (base := g) (bs := List.replicate m 0) hg (Nat.le_refl _) (by unfold maxLen; simp; omega)
    rw [List.length_replicate] at h
    exact h
  | some ad =>
    have hlen := hr.1
    have hcl : (vals (bs.take m)).length = Nat.min len m := by rw [length_vals, List.length_take, hlen, Nat.min_comm]
    refine ⟨_, ⟨(vals (bs.take m)).length, fun ty => run_copy_row Try.prog w1 32 32 ty 5 g 0 m m ad len cap _ 5 (vals (bs.take m)) Try.underlying32 info1 hg hcl (fun j v hv => ?_) ?_ (vals_one _)⟩, ?_, ?_⟩
    · refine hr.cellsAt ad rfl j v ?_
      rw [vals, List.map_take, List.getElem?_take] at hv
      split at hv
      · exact hv
      · cases hv
    · simp only [Nat.zero_add, List.size_toArray, length_vals, List.length_replicate, List.length_take]; omega
    · have e1 : (List.take 0 (vals (List.replicate m 0)).toArray.toList ++ vals (bs.take m) ++ List.drop (0 + (vals (bs.take m)).length) (vals (List.replicate m 0)).toArray.toList) = vals (resized bs m) := by
        rw [List.take_zero, List.nil_append, Nat.zero_add, length_vals, List.length_take]
        unfold resized
        rw [vals_append]
        congr 1
        simp only [vals, List.map_replicate, List.drop_replicate]
        congr 1
        omega
      rw [e1]
      have h := own_heap (base := g) (bs := resized bs m) (setRow_heap w1 g _ (vals (resized bs m)).toArray _ _ hg) (Nat.le_refl _) (by rw [resized_len]; unfold maxLen; omega)
      rw [resized_len] at h
      exact h
    · have hb := below_setRow (Below.refl g w1) (Nat.le_refl g) (List.take 0 (vals (List.replicate m 0)).toArray.toList ++ vals (bs.take m) ++ List.drop (0 + (vals (bs.take m)).length) (vals (List.replicate m 0)).toArray.toList).toArray
      exact ⟨hb.os, hb.tape, hb.output, hb.size, fun i hi hne => hb.block i (by have : i ≠ g := fun e => hne (by rw [e]); omega)⟩
set_option maxRecDepth 100000 in
theorem resize_ok (b : Nat) (va : Option Addr) (len cap base m : Nat) (bs : List (BitVec 8)) (by_ : Int) (w : World) (h : BAt w b (.slice va len cap) 1 (-1) false) (ho : Own w base (.slice va len cap) bs) (hl : len ≤ 268435456) (hm : m ≤ 268435456) (hby : (len : Int) + by_ = (m : Int)) :
    Calls Try.prog 62 #[.pointer (some ⟨b, 0, none⟩), .int .i64 by_] w fun e w' => e = .returned (.int .i64 0) ∧ BAt w' b (.slice (some ⟨w.heap.size, 0, none⟩) m m) 1 (-1) false ∧ Own w' w.heap.size (.slice (some ⟨w.heap.size, 0, none⟩) m m) (resized bs m) ∧ w.grownBy w' (some b) := by
  have hlen := (Got.cap ho).2
  have hnil : va = none → len = 0 ∧ cap = 0 := Got.nil ho
  have hr := Got.rd ho (by omega)
  have hbl := h.lt
  obtain ⟨c0, c1, c2, c3⟩ := h.cells
  have HSZ := hide (size_any b va len cap 1 (-1) false w h (by omega))
  have hli : (len : Int) ≤ 268435456 := by omega
  have h1 : ¬ by_ < -(len : Int) := by omega
  have h2 : ¬ 268435456 - (len : Int) < by_ := by omega
  have h3 : by_ ≤ 268435456 := by omega
  have h4 : -268435456 ≤ by_ := by omega
  have hmk := make_row_u8 m (m : Int) rfl (by omega)
  obtain ⟨w1, hw1⟩ : ∃ w1, w.alloc (.cells (vals (List.replicate m 0)).toArray 5) = w1 := ⟨_, rfl⟩
  have hb1 : Below w.heap.size w w1 := by rw [← hw1]; exact (Below.refl _ _).alloc (Nat.le_refl _) _
  have hg1 : w1.heap[w.heap.size]? = some (.cells (vals (List.replicate m 0)).toArray 5) := by rw [← hw1]; exact heap_alloc_new _ _
  have hz1 : w1.heap.size = w.heap.size + 1 := by rw [← hw1]; simp
  obtain ⟨w2, ⟨k, hcp⟩, ho2, hg2⟩ := copy_res w.heap.size m len cap va bs w1 hg1 (hr.below hb1) hnil (by omega) hz1
  have HT1 := hide (h.grown (below_grown hb1) (by simp))
  have HT2 := hide (HT1.out.grown hg2 (fun e => by have := Option.some.inj e; omega))
  obtain ⟨d0, d1, d2, d3⟩ := HT1.out.cells
  obtain ⟨e0, e1, e2, e3⟩ := HT2.out.cells
  have f2 := HT2.out.frozen 0
  have HO2 := hide ho2
  have HG2 := hide hg2
  have HB1 := hide hb1
  have hmk2 : ∀ W : World, (Instr.makeSlice 32 (.int .i64 (m : Int)) (.int .i64 (m : Int))).run Try.prog W = .ok (.slice (some ⟨W.heap.size, 0, none⟩) m m) (W.alloc (.cells (vals (List.replicate m 0)).toArray 5)) := hmk
  generalize (vals (List.replicate m 0)).toArray = ZT at hmk hmk2 hw1 hg1
  clear h ho hr hb1 hg1 hg2 ho2 hnil hmk hlen
  go_enter Try.func62, Try.ntmps62
  go_wp2_with (go_at_call 64; refine HSZ.out.mono ?_; rintro e w0 ⟨rfl, rfl⟩)
  go_ret
  refine ⟨rfl, HT2.out.data _, ?_, grown_cell (grown_new (grown_of_below HB1.out) HG2.out (fun i e => by have := Option.some.inj e; omega)) _ _⟩
  exact keep HO2.out (grown_cell (World.grownBy.refl _ _) _ _) (fun i j e e2 => by have h1 := blk_eq e; have h2 := Option.some.inj e2; omega)
set_option maxRecDepth 100000 in
theorem resize1_any (b x : Nat) (by_ : Int) (w : World) (Post : Ending → World → Prop) (cx : w.cell? ⟨x, 0, none⟩ = some (.int .i64 by_)) (h : Calls Try.prog 62 #[.pointer (some ⟨b, 0, none⟩), .int .i64 by_] w fun e w' => ∃ r : Int, e = .returned (.int .i64 r) ∧ Post e w') :
    Calls Try.prog 61 #[.pointer (some ⟨b, 0, none⟩), .pointer (some ⟨x, 0, none⟩)] w fun e w' => ∃ r : Int, e = .returned (.int .i64 r) ∧ Post e w' := by
  have HW := hide h
  clear h
  go_enter Try.func61, Try.ntmps61
  go_wp2_with (go_at_call 62; refine HW.out.mono ?_; rintro e w' ⟨r, rfl, hp⟩; have HP := hide hp; clear hp)
  go_ret
  exact ⟨r, rfl, HP.out⟩
set_option maxRecDepth 100000 in
/-- A change of the length that may be. -/
theorem resizeS_ok (s bm n b base m : Nat) (D : DataW Unit) (R B G : Int) (nm : ByteArray) (va : Option Addr) (len cap : Nat) (bs : List (BitVec 8)) (by_ : Int) (w : World) (hs : Store w s bm n D R B G) (hn : okName nm = true) (hsz : nm.size ≤ 140737488351232) (hd : D.atKey (key nm) .nil = .lit (.int .i64 (b : Int)))
    (hb : BAt w b (.slice va len cap) 1 (-1) false) (ho : Own w base (.slice va len cap) bs) (hov : ∀ i, (Value.slice va len cap).ownBlock = some i → i ≠ s) (hl : len ≤ 268435456) (hm : m ≤ 268435456) (hby : (len : Int) + by_ = (m : Int)) (hsb : s ≠ b) (hmb : bm ≠ b) :
    Calls Try.prog 33 #[.pointer (some ⟨s, 0, none⟩), .string nm, .int .i64 by_] w fun e w' => ∃ v, e = .returned (.int .i64 0) ∧ Store w' s bm n D R B G ∧ BAt w' b v 1 (-1) false ∧ Own w' w.heap.size v (resized bs m) ∧ Kept2 w w' (some s) (some b) := by
  have hsne := hs.ne
  have hsl := hs.at_.lt
  have hbl := hb.lt
  obtain ⟨w4, hw4⟩ : ∃ w4, w.alloc (.cells #[.int .i64 by_] 2) = w4 := ⟨_, rfl⟩
  have bel4 : Below w.heap.size w w4 := by rw [← hw4]; exact (Below.refl _ _).alloc (Nat.le_refl _) _
  have x4 : w4.cell? ⟨w.heap.size, 0, none⟩ = some (.int .i64 by_) := by rw [← hw4, cell_of_row _ _ _ _ _ _ (heap_alloc_new _ _)]; rfl
  have sz4 : w4.heap.size = w.heap.size + 1 := by rw [← hw4]; simp
  have hS4 := hs.at_.grown (below_grown bel4) (by simp)
  have hM4 := hs.map.grown (below_grown bel4) (by simp)
  have hb4 := hb.grown (below_grown bel4) (by simp)
  have ho4 := ho.below bel4
  have hG5 : w4.grownBy (w4.setCell ⟨s, 0, none⟩ (.int .i32 1)) (some s) := grown_cell (World.grownBy.refl _ _) _ _
  have hne3 : w.heap.size ≠ s := by omega
  have cc3 : (w4.setCell ⟨s, 0, none⟩ (.int .i32 1)).cell? ⟨w.heap.size, 0, none⟩ = some (.int .i64 by_) := by rw [World.cell?_setCell_other _ ⟨s, 0, none⟩ ⟨w.heap.size, 0, none⟩ _ (fun e => hne3 (congrArg Addr.block e).symm)]; exact x4
  have sz5 : (w4.setCell ⟨s, 0, none⟩ (.int .i32 1)).heap.size = w.heap.size + 1 := by rw [← sz4]; simp [World.setCell]
  have HC := hide (onBlob_any s bm n b 61 R B G D nm #[.pointer (some ⟨w.heap.size, 0, none⟩)] w4
    (fun e w' => ∃ v, e = .returned (.int .i64 0) ∧ Store w' s bm n D R B G ∧ BAt w' b v 1 (-1) false ∧ Own w' w.heap.size v (resized bs m) ∧ Kept2 w w' (some s) (some b)) enter61 hS4 hM4 hsne hn hsz hd (by
      refine resize1_any b w.heap.size by_ _ (fun e w' => (∃ R' B' G', SAt w' s 1 bm R' B' G') ∧ ∃ v, e = .returned (.int .i64 0) ∧ Store (w'.setCell ⟨s, 0, none⟩ (.int .i32 0)) s bm n D R B G ∧ BAt (w'.setCell ⟨s, 0, none⟩ (.int .i32 0)) b v 1 (-1) false ∧ Own (w'.setCell ⟨s, 0, none⟩ (.int .i32 0)) w.heap.size v (resized bs m) ∧ Kept2 w (w'.setCell ⟨s, 0, none⟩ (.int .i32 0)) (some s) (some b)) cc3 ?_
      refine (resize_ok b va len cap base m bs by_ _ (hb4.grown hG5 (by simpa using hsb)) (keep ho4 hG5 (fun i j e e2 => by have h1 := hov i e; have h2 := Option.some.inj e2; omega)) hl hm hby).mono ?_
      rintro e w6 ⟨rfl, hb6, ho6, hg6⟩
      have hS6 : SAt w6 s 1 bm R B G := (hS4.lock 1).grown hg6 (fun e => hsb (Option.some.inj e).symm)
      have hG7 : w6.grownBy (w6.setCell ⟨s, 0, none⟩ (.int .i32 0)) (some s) := grown_cell (World.grownBy.refl _ _) _ _
      have kk : Kept2 w (w6.setCell ⟨s, 0, none⟩ (.int .i32 0)) (some s) (some b) := kept2_trans (kept2_trans (kept2_below bel4 (some s) (some b)) (kept2_grown hG5 (.inl rfl))) (kept2_trans (kept2_grown hg6 (.inr (.inl rfl))) (kept2_grown hG7 (.inl rfl)))
      refine ⟨0, rfl, ⟨_, _, _, hS6⟩, _, rfl, ⟨hS6.lock 0, MAt.kept hs.map kk (by simpa using hsne) (by simpa using fun e => hmb e.symm), hsne⟩, hb6.grown hG7 (by simpa using hsb), ?_, kk⟩
      exact (keep ho6 hG7 (fun i j e e2 => by have h1 := (blk ho6 i e).1; have h2 := Option.some.inj e2; omega)).mono (by omega)))
  clear hS4 hM4 hb4 ho4 hG5 cc3 hs hb ho hd x4 bel4
  go_enter Try.func33, Try.ntmps33
  go_wp2_with (go_at_call 52; refine HC.out.mono ?_; rintro e w9 ⟨v, rfl, h1, h2, h3, h4⟩; have HF := hide (And.intro h1 (And.intro h2 (And.intro h3 h4))); clear h1 h2 h3 h4)
  go_ret
  exact ⟨v, rfl, HF.out.1, HF.out.2.1, HF.out.2.2.1, HF.out.2.2.2⟩
set_option maxRecDepth 100000 in
/-- A change of the length that may not be. -/
theorem resizeS_bad (s bm n b : Nat) (D : DataW Unit) (R B G : Int) (nm : ByteArray) (va : Option Addr) (len cap : Nat) (by_ : Int) (w : World) (hs : Store w s bm n D R B G) (hn : okName nm = true) (hsz : nm.size ≤ 140737488351232) (hd : D.atKey (key nm) .nil = .lit (.int .i64 (b : Int)))
    (hb : BAt w b (.slice va len cap) 1 (-1) false) (hl : len ≤ 268435456) (hby : by_ < -(len : Int) ∨ 268435456 - (len : Int) < by_) (hsb : s ≠ b) :
    Calls Try.prog 33 #[.pointer (some ⟨s, 0, none⟩), .string nm, .int .i64 by_] w fun e w' => e = .returned (.int .i64 56) ∧ Kept2 w w' (some s) none := by
  have hsne := hs.ne
  have hsl := hs.at_.lt
  obtain ⟨w4, hw4⟩ : ∃ w4, w.alloc (.cells #[.int .i64 by_] 2) = w4 := ⟨_, rfl⟩
  have bel4 : Below w.heap.size w w4 := by rw [← hw4]; exact (Below.refl _ _).alloc (Nat.le_refl _) _
  have x4 : w4.cell? ⟨w.heap.size, 0, none⟩ = some (.int .i64 by_) := by rw [← hw4, cell_of_row _ _ _ _ _ _ (heap_alloc_new _ _)]; rfl
  have hS4 := hs.at_.grown (below_grown bel4) (by simp)
  have hM4 := hs.map.grown (below_grown bel4) (by simp)
  have hb4 := hb.grown (below_grown bel4) (by simp)
  have hG5 : w4.grownBy (w4.setCell ⟨s, 0, none⟩ (.int .i32 1)) (some s) := grown_cell (World.grownBy.refl _ _) _ _
  have hne3 : w.heap.size ≠ s := by omega
  have cc3 : (w4.setCell ⟨s, 0, none⟩ (.int .i32 1)).cell? ⟨w.heap.size, 0, none⟩ = some (.int .i64 by_) := by rw [World.cell?_setCell_other _ ⟨s, 0, none⟩ ⟨w.heap.size, 0, none⟩ _ (fun e => hne3 (congrArg Addr.block e).symm)]; exact x4
  have HC := hide (onBlob_any s bm n b 61 R B G D nm #[.pointer (some ⟨w.heap.size, 0, none⟩)] w4
    (fun e w' => e = .returned (.int .i64 56) ∧ Kept2 w w' (some s) none) enter61 hS4 hM4 hsne hn hsz hd (by
      refine resize1_any b w.heap.size by_ _ (fun e w' => (∃ R' B' G', SAt w' s 1 bm R' B' G') ∧ e = .returned (.int .i64 56) ∧ Kept2 w (w'.setCell ⟨s, 0, none⟩ (.int .i32 0)) (some s) none) cc3 ?_
      refine (resize_bad b va len cap by_ _ (hb4.grown hG5 (by simpa using hsb)) hl hby).mono ?_
      rintro e w6 ⟨rfl, rfl⟩
      exact ⟨56, rfl, ⟨_, _, _, hS4.lock 1⟩, rfl, kept2_trans (kept2_trans (kept2_below bel4 (some s) none) (kept2_grown hG5 (.inl rfl))) (kept2_cell _ _ _ _ _)⟩))
  clear hS4 hM4 hb4 hG5 cc3 hs hb hd x4 bel4
  go_enter Try.func33, Try.ntmps33
  go_wp2_with (go_at_call 52; refine HC.out.mono ?_; rintro e w9 ⟨rfl, h1⟩; have HF := hide h1; clear h1)
  go_ret
  exact ⟨rfl, HF.out⟩
end Go.Proofs.Ytndodbfhigejfab.St
