/-
  Turning bits of a blob through the store.
-/
import Derived.Test.YtndodbfhigejfabStFlip
namespace Go.Proofs.Ytndodbfhigejfab.St
open Go.ChangeShapes Go.WideShapes Go.ChangeAt Go.RowKit Go.MuLone
open Go.Proofs.Ytndodbfhigejfab.Base
set_option linter.unusedVariables false
set_option maxHeartbeats 1000000
theorem enter56 (args : Array Value) (W : World) : (callFunc 56 args).run Try.prog W = .ok (.enter 56 args) W := enter_of Try.func56 (by kernel_rfl) (by kernel_rfl) args W
theorem flip_bad (b : Nat) (va : Option Addr) (len cap : Nat) (bit m : Int) (w : World) (h : BAt w b (.slice va len cap) 2 (-1) false) (hl : len ≤ 268435456) (hb : bit < 0 ∨ 8 * (len : Int) ≤ bit) :
    Calls Try.prog 57 #[.pointer (some ⟨b, 0, none⟩), .int .i64 bit, .int .u32 m] w fun e w' => e = .returned (.int .i64 56) ∧ w' = w := by
  have HSZ := hide (size_any b va len cap 2 (-1) false w h (by omega))
  have hli : (len : Int) ≤ 268435456 := by omega
  by_cases h0 : bit < 0
  · go_enter Try.func57, Try.ntmps57
    go_wp2_with (go_at_call 64; refine HSZ.out.mono ?_; rintro e w' ⟨rfl, rfl⟩)
    go_ret
    exact ⟨rfl, rfl⟩
  · have hb2 : 8 * (len : Int) ≤ bit := hb.resolve_left h0
    clear hb
    go_enter Try.func57, Try.ntmps57
    go_wp2_with (go_at_call 64; refine HSZ.out.mono ?_; rintro e w' ⟨rfl, rfl⟩)
    go_ret
    exact ⟨rfl, rfl⟩
theorem flip1_any (b x y : Nat) (bit m : Int) (w : World) (Post : Ending → World → Prop) (cx : w.cell? ⟨x, 0, none⟩ = some (.int .i64 bit)) (cy : w.cell? ⟨y, 0, none⟩ = some (.int .u32 m)) (h : Calls Try.prog 57 #[.pointer (some ⟨b, 0, none⟩), .int .i64 bit, .int .u32 m] w fun e w' => ∃ r : Int, e = .returned (.int .i64 r) ∧ Post e w') :
    Calls Try.prog 56 #[.pointer (some ⟨b, 0, none⟩), .pointer (some ⟨x, 0, none⟩), .pointer (some ⟨y, 0, none⟩)] w fun e w' => ∃ r : Int, e = .returned (.int .i64 r) ∧ Post e w' := by
  have HW := hide h
  clear h
  go_enter Try.func56, Try.ntmps56
  go_wp2_with (go_at_call 57; refine HW.out.mono ?_; rintro e w' ⟨r, rfl, hp⟩; have HP := hide hp; clear hp)
  go_ret
  exact ⟨r, rfl, HP.out⟩
theorem two_new (w : World) (v1 v2 : Value) (t1 t2 : TypeId) (w2 : World) (h : (w.alloc (.cells #[v1] t1)).alloc (.cells #[v2] t2) = w2) :
    w2.cell? ⟨w.heap.size, 0, none⟩ = some v1 ∧ w2.cell? ⟨w.heap.size + 1, 0, none⟩ = some v2 ∧ w2.heap.size = w.heap.size + 1 + 1 ∧ Below w.heap.size w w2 := by
  have e1 : (w.alloc (.cells #[v1] t1)).heap.size = w.heap.size + 1 := by simp
  have c1 : (w.alloc (.cells #[v1] t1)).cell? ⟨w.heap.size, 0, none⟩ = some v1 := by rw [cell_of_row _ _ _ _ _ _ (heap_alloc_new _ _)]; rfl
  have b2 : Below (w.alloc (.cells #[v1] t1)).heap.size (w.alloc (.cells #[v1] t1)) w2 := by rw [← h]; exact (Below.refl _ _).alloc (Nat.le_refl _) _
  have c2 : w2.cell? ⟨w.heap.size + 1, 0, none⟩ = some v2 := by rw [← e1, ← h, cell_of_row _ _ _ _ _ _ (heap_alloc_new _ _)]; rfl
  refine ⟨?_, c2, by rw [← h]; simp, below_trans ((Below.refl _ _).alloc (Nat.le_refl _) _) b2⟩
  rw [b2.cell (p := ⟨w.heap.size, 0, none⟩) (by rw [e1]; exact Nat.lt_succ_self _)]; exact c1
set_option maxRecDepth 100000 in
/-- Bits turned. -/
theorem flipS_ok (s bm n b g base bit : Nat) (D : DataW Unit) (R B G : Int) (nm : ByteArray) (L cap : Nat) (bs : List (BitVec 8)) (mask : BitVec 32) (w : World) (hs : Store w s bm n D R B G) (hn : okName nm = true) (hsz : nm.size ≤ 140737488351232) (hd : D.atKey (key nm) .nil = .lit (.int .i64 (b : Int)))
    (hb : BAt w b (.slice (some ⟨g, 0, none⟩) L cap) 2 (-1) false) (ho : Own w base (.slice (some ⟨g, 0, none⟩) L cap) bs) (hgs : g ≠ s) (hgm : g ≠ bm) (hgb : g ≠ b) (hl : L ≤ 268435456) (hbit : bit < 8 * L) (hsb : s ≠ b) :
    Calls Try.prog 28 #[.pointer (some ⟨s, 0, none⟩), .string nm, .int .i64 (bit : Int), .int .u32 (mask.toNat : Int)] w fun e w' => e = .returned (.int .i64 0) ∧ Store w' s bm n D R B G ∧ BAt w' b (.slice (some ⟨g, 0, none⟩) L cap) 2 (-1) false ∧ Own w' base (.slice (some ⟨g, 0, none⟩) L cap) (flipTo bs bit mask 32) ∧ Kept2 w w' (some s) (some g) := by
  have hsne := hs.ne
  have hsl := hs.at_.lt
  have hbl := hb.lt
  obtain ⟨w4, hw4⟩ : ∃ w4, (w.alloc (.cells #[.int .i64 (bit : Int)] 2)).alloc (.cells #[.int .u32 (mask.toNat : Int)] 28) = w4 := ⟨_, rfl⟩
  obtain ⟨x4, y4, sz4, bel4⟩ := two_new w _ _ _ _ w4 hw4
  have hS4 := hs.at_.grown (below_grown bel4) (by simp)
  have hM4 := hs.map.grown (below_grown bel4) (by simp)
  have hb4 := hb.grown (below_grown bel4) (by simp)
  have ho4 := ho.below bel4
  have hG5 : w4.grownBy (w4.setCell ⟨s, 0, none⟩ (.int .i32 1)) (some s) := grown_cell (World.grownBy.refl _ _) _ _
  have hne3 : w.heap.size ≠ s := by omega
  have hne4 : w.heap.size + 1 ≠ s := by omega
  have cc3 : (w4.setCell ⟨s, 0, none⟩ (.int .i32 1)).cell? ⟨w.heap.size, 0, none⟩ = some (.int .i64 (bit : Int)) := by rw [World.cell?_setCell_other _ ⟨s, 0, none⟩ ⟨w.heap.size, 0, none⟩ _ (fun e => hne3 (congrArg Addr.block e).symm)]; exact x4
  have cc4 : (w4.setCell ⟨s, 0, none⟩ (.int .i32 1)).cell? ⟨w.heap.size + 1, 0, none⟩ = some (.int .u32 (mask.toNat : Int)) := by rw [World.cell?_setCell_other _ ⟨s, 0, none⟩ ⟨w.heap.size + 1, 0, none⟩ _ (fun e => hne4 (congrArg Addr.block e).symm)]; exact y4
  have HC := hide (onBlob_any s bm n b 56 R B G D nm #[.pointer (some ⟨w.heap.size, 0, none⟩), .pointer (some ⟨w.heap.size + 1, 0, none⟩)] w4
    (fun e w' => e = .returned (.int .i64 0) ∧ Store w' s bm n D R B G ∧ BAt w' b (.slice (some ⟨g, 0, none⟩) L cap) 2 (-1) false ∧ Own w' base (.slice (some ⟨g, 0, none⟩) L cap) (flipTo bs bit mask 32) ∧ Kept2 w w' (some s) (some g)) enter56 hS4 hM4 hsne hn hsz hd (by
      refine flip1_any b w.heap.size (w.heap.size + 1) (bit : Int) (mask.toNat : Int) _ (fun e w' => (∃ R' B' G', SAt w' s 1 bm R' B' G') ∧ e = .returned (.int .i64 0) ∧ Store (w'.setCell ⟨s, 0, none⟩ (.int .i32 0)) s bm n D R B G ∧ BAt (w'.setCell ⟨s, 0, none⟩ (.int .i32 0)) b (.slice (some ⟨g, 0, none⟩) L cap) 2 (-1) false ∧ Own (w'.setCell ⟨s, 0, none⟩ (.int .i32 0)) base (.slice (some ⟨g, 0, none⟩) L cap) (flipTo bs bit mask 32) ∧ Kept2 w (w'.setCell ⟨s, 0, none⟩ (.int .i32 0)) (some s) (some g)) cc3 cc4 ?_
      refine (flip_ok b g L cap base bit bs mask _ (hb4.grown hG5 (by simpa using hsb)) (keep ho4 hG5 (fun i j e e2 => by have h1 := blk_eq e; have h2 := Option.some.inj e2; omega)) hl hbit hgb).mono ?_
      rintro e w6 ⟨rfl, ho6, hg6⟩
      have hS6 : SAt w6 s 1 bm R B G := (hS4.lock 1).grown hg6 (fun e => hgs (Option.some.inj e))
      have hb6 := (hb4.grown hG5 (by simpa using hsb)).grown hg6 (fun e => hgb (Option.some.inj e))
      have hG7 : w6.grownBy (w6.setCell ⟨s, 0, none⟩ (.int .i32 0)) (some s) := grown_cell (World.grownBy.refl _ _) _ _
      have kk : Kept2 w (w6.setCell ⟨s, 0, none⟩ (.int .i32 0)) (some s) (some g) := kept2_trans (kept2_trans (kept2_below bel4 (some s) (some g)) (kept2_grown hG5 (.inl rfl))) (kept2_trans (kept2_grown hg6 (.inr (.inl rfl))) (kept2_grown hG7 (.inl rfl)))
      exact ⟨0, rfl, ⟨_, _, _, hS6⟩, rfl, ⟨hS6.lock 0, MAt.kept hs.map kk (by simpa using hsne) (by simpa using hgm), hsne⟩, hb6.grown hG7 (by simpa using hsb), keep ho6 hG7 (fun i j e e2 => by have h1 := blk_eq e; have h2 := Option.some.inj e2; omega), kk⟩))
  clear hS4 hM4 hb4 ho4 hG5 cc3 cc4 hs hb ho hd x4 y4 bel4
  go_enter Try.func28, Try.ntmps28
  go_wp2_with (go_at_call 52; refine HC.out.mono ?_; rintro e w9 ⟨rfl, h1⟩; have HF := hide h1; clear h1)
  go_ret
  exact ⟨rfl, HF.out⟩
set_option maxRecDepth 100000 in
/-- Bits that are not there. -/
theorem flipS_bad (s bm n b : Nat) (D : DataW Unit) (R B G : Int) (nm : ByteArray) (va : Option Addr) (len cap : Nat) (bit m : Int) (w : World) (hs : Store w s bm n D R B G) (hn : okName nm = true) (hsz : nm.size ≤ 140737488351232) (hd : D.atKey (key nm) .nil = .lit (.int .i64 (b : Int)))
    (hb : BAt w b (.slice va len cap) 2 (-1) false) (hl : len ≤ 268435456) (hbit : bit < 0 ∨ 8 * (len : Int) ≤ bit) (hsb : s ≠ b) :
    Calls Try.prog 28 #[.pointer (some ⟨s, 0, none⟩), .string nm, .int .i64 bit, .int .u32 m] w fun e w' => e = .returned (.int .i64 56) ∧ Kept2 w w' (some s) none := by
  have hsne := hs.ne
  have hsl := hs.at_.lt
  obtain ⟨w4, hw4⟩ : ∃ w4, (w.alloc (.cells #[.int .i64 bit] 2)).alloc (.cells #[.int .u32 m] 28) = w4 := ⟨_, rfl⟩
  obtain ⟨x4, y4, sz4, bel4⟩ := two_new w _ _ _ _ w4 hw4
  have hS4 := hs.at_.grown (below_grown bel4) (by simp)
  have hM4 := hs.map.grown (below_grown bel4) (by simp)
  have hb4 := hb.grown (below_grown bel4) (by simp)
  have hG5 : w4.grownBy (w4.setCell ⟨s, 0, none⟩ (.int .i32 1)) (some s) := grown_cell (World.grownBy.refl _ _) _ _
  have hne3 : w.heap.size ≠ s := by omega
  have hne4 : w.heap.size + 1 ≠ s := by omega
  have cc3 : (w4.setCell ⟨s, 0, none⟩ (.int .i32 1)).cell? ⟨w.heap.size, 0, none⟩ = some (.int .i64 bit) := by rw [World.cell?_setCell_other _ ⟨s, 0, none⟩ ⟨w.heap.size, 0, none⟩ _ (fun e => hne3 (congrArg Addr.block e).symm)]; exact x4
  have cc4 : (w4.setCell ⟨s, 0, none⟩ (.int .i32 1)).cell? ⟨w.heap.size + 1, 0, none⟩ = some (.int .u32 m) := by rw [World.cell?_setCell_other _ ⟨s, 0, none⟩ ⟨w.heap.size + 1, 0, none⟩ _ (fun e => hne4 (congrArg Addr.block e).symm)]; exact y4
  have HC := hide (onBlob_any s bm n b 56 R B G D nm #[.pointer (some ⟨w.heap.size, 0, none⟩), .pointer (some ⟨w.heap.size + 1, 0, none⟩)] w4
    (fun e w' => e = .returned (.int .i64 56) ∧ Kept2 w w' (some s) none) enter56 hS4 hM4 hsne hn hsz hd (by
      refine flip1_any b w.heap.size (w.heap.size + 1) bit m _ (fun e w' => (∃ R' B' G', SAt w' s 1 bm R' B' G') ∧ e = .returned (.int .i64 56) ∧ Kept2 w (w'.setCell ⟨s, 0, none⟩ (.int .i32 0)) (some s) none) cc3 cc4 ?_
      refine (flip_bad b va len cap bit m _ (hb4.grown hG5 (by simpa using hsb)) hl hbit).mono ?_
      rintro e w6 ⟨rfl, rfl⟩
      exact ⟨56, rfl, ⟨_, _, _, hS4.lock 1⟩, rfl, kept2_trans (kept2_trans (kept2_below bel4 (some s) none) (kept2_grown hG5 (.inl rfl))) (kept2_cell _ _ _ _ _)⟩))
  clear hS4 hM4 hb4 hG5 cc3 cc4 hs hb hd x4 y4 bel4
  go_enter Try.func28, Try.ntmps28
  go_wp2_with (go_at_call 52; refine HC.out.mono ?_; rintro e w9 ⟨rfl, h1⟩; have HF := hide h1; clear h1)
  go_ret
  exact ⟨rfl, HF.out⟩
end Go.Proofs.Ytndodbfhigejfab.St
