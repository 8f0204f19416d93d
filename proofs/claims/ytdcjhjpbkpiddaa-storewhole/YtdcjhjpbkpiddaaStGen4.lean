/-
  Append, Publish, StopAt through the store, by what they do to the blob.
-/
import Derived.Test.YtdcjhjpbkpiddaaStGen3
namespace Go.Proofs.Ytdcjhjpbkpiddaa.St
open Go.ChangeShapes Go.WideShapes Go.ChangeAt Go.RowKit Go.MuLone
open Go.Proofs.Ytdcjhjpbkpiddaa.Base
set_option linter.unusedVariables false
set_option maxHeartbeats 1000000
theorem app1_by (b x : Nat) (v : Value) (a : Option Addr) (l c : Nat) (hv : v = .slice a l c) (w : World) (Post : Ending → World → Prop) (cx : w.cell? ⟨x, 0, none⟩ = some v) (h : Calls Try.prog 25 #[.pointer (some ⟨b, 0, none⟩), v] w fun e w' => ∃ r : Int, e = .returned (.int .i64 r) ∧ Post e w') :
    Calls Try.prog 24 #[.pointer (some ⟨b, 0, none⟩), .pointer (some ⟨x, 0, none⟩)] w fun e w' => ∃ r : Int, e = .returned (.int .i64 r) ∧ Post e w' := by
  have HW := hide h
  subst hv
  clear h
  go_enter Try.func24, Try.ntmps24
  go_wp2_with (go_at_call 25; refine HW.out.mono ?_; rintro e w' ⟨r, rfl, hp⟩; have HP := hide hp; clear hp)
  go_ret
  exact ⟨r, rfl, HP.out⟩
theorem appendS_by (s bm n b : Nat) (D : DataW Unit) (R B G : Int) (nm : ByteArray) (ma : Option Addr) (ml mc : Nat) (w w1 : World) (Post : Int → World → Prop) (hs : Store w s bm n D R B G) (hn : okName nm = true) (hsz : nm.size ≤ 140737488351232) (hd : D.atKey (key nm) .nil = .lit (.int .i64 (b : Int)))
    (hw1 : w.alloc (.cells #[.slice ma ml mc] 25) = w1)
    (hdo : Calls Try.prog 25 #[.pointer (some ⟨b, 0, none⟩), .slice ma ml mc] (w1.setCell ⟨s, 0, none⟩ (.int .i32 1)) fun e w' => ∃ r : Int, e = .returned (.int .i64 r) ∧ SAt w' s 1 bm R B G ∧ Post r (w'.setCell ⟨s, 0, none⟩ (.int .i32 0))) :
    Calls Try.prog 10 #[.pointer (some ⟨s, 0, none⟩), .string nm, .slice ma ml mc] w fun e w' => ∃ r : Int, e = .returned (.int .i64 r) ∧ Post r w' := by
  have hsl := hs.at_.lt
  have hB1 : Below w.heap.size w w1 := by rw [← hw1]; exact (Below.refl _ _).alloc (Nat.le_refl _) _
  have hx1 : w1.cell? ⟨w.heap.size, 0, none⟩ = some (.slice ma ml mc) := by rw [← hw1, cell_of_row _ _ _ _ _ _ (heap_alloc_new _ _)]; rfl
  have hS1 : SAt w1 s 0 bm R B G := hs.at_.grown (below_grown hB1) (by simp)
  have hM1 : MAt w1 bm n D := hs.map.grown (below_grown hB1) (by simp)
  have hne : w.heap.size ≠ s := by omega
  have hx2 : (w1.setCell ⟨s, 0, none⟩ (.int .i32 1)).cell? ⟨w.heap.size, 0, none⟩ = some (.slice ma ml mc) := by rw [World.cell?_setCell_other _ ⟨s, 0, none⟩ ⟨w.heap.size, 0, none⟩ _ (fun e => hne (congrArg Addr.block e).symm)]; exact hx1
  have HC := hide (onBlob_any s bm n b 24 R B G D nm #[.pointer (some ⟨w.heap.size, 0, none⟩)] w1
    (fun e w' => ∃ r : Int, e = .returned (.int .i64 r) ∧ Post r w') enter53 hS1 hM1 hs.ne hn hsz hd (by
      refine app1_by b w.heap.size (.slice ma ml mc) ma ml mc rfl _ (fun e w' => (∃ R' B' G', SAt w' s 1 bm R' B' G') ∧ ∃ r : Int, e = .returned (.int .i64 r) ∧ Post r (w'.setCell ⟨s, 0, none⟩ (.int .i32 0))) hx2 ?_
      refine hdo.mono ?_
      rintro e w' ⟨r, rfl, h1, h2⟩
      exact ⟨r, rfl, ⟨_, _, _, h1⟩, r, rfl, h2⟩))
  clear hB1 hx1 hS1 hM1 hx2 hdo hd hs
  go_enter Try.func10, Try.ntmps10
  go_wp2_with fail
  refine HC.out.mono ?_
  rintro e w' ⟨r, rfl, h1⟩
  have HF := hide h1
  clear h1
  go_wp2_with fail
  go_ret
  exact ⟨r, rfl, HF.out⟩
theorem publishS_by (s bm n b : Nat) (D : DataW Unit) (R B G : Int) (nm : ByteArray) (w : World) (Post : Int → World → Prop) (hs : Store w s bm n D R B G) (hn : okName nm = true) (hsz : nm.size ≤ 140737488351232) (hd : D.atKey (key nm) .nil = .lit (.int .i64 (b : Int)))
    (hdo : Calls Try.prog 26 #[.pointer (some ⟨b, 0, none⟩)] (w.setCell ⟨s, 0, none⟩ (.int .i32 1)) fun e w' => ∃ r : Int, e = .returned (.int .i64 r) ∧ SAt w' s 1 bm R B G ∧ Post r (w'.setCell ⟨s, 0, none⟩ (.int .i32 0))) :
    Calls Try.prog 12 #[.pointer (some ⟨s, 0, none⟩), .string nm] w fun e w' => ∃ r : Int, e = .returned (.int .i64 r) ∧ Post r w' := by
  have HC := hide (onBlob_any s bm n b 26 R B G D nm #[] w
    (fun e w' => ∃ r : Int, e = .returned (.int .i64 r) ∧ Post r w') enter55 hs.at_ hs.map hs.ne hn hsz hd (by
      refine hdo.mono ?_
      rintro e w' ⟨r, rfl, h1, h2⟩
      exact ⟨r, rfl, ⟨_, _, _, h1⟩, r, rfl, h2⟩))
  clear hdo hd hs
  go_enter Try.func12, Try.ntmps12
  go_wp2_with fail
  refine HC.out.mono ?_
  rintro e w' ⟨r, rfl, h1⟩
  have HF := hide h1
  clear h1
  go_wp2_with fail
  go_ret
  exact ⟨r, rfl, HF.out⟩
theorem enterStop (args : Array Value) (W : World) : (callFunc 22 args).run Try.prog W = .ok (.enter 22 args) W := enter_of Try.func22 (by kernel_rfl) (by kernel_rfl) args W
theorem stop1_by (b x : Nat) (n : Int) (w : World) (Post : Ending → World → Prop) (cx : w.cell? ⟨x, 0, none⟩ = some (.int .i64 n)) (h : Calls Try.prog 23 #[.pointer (some ⟨b, 0, none⟩), .int .i64 n] w fun e w' => ∃ r : Int, e = .returned (.int .i64 r) ∧ Post e w') :
    Calls Try.prog 22 #[.pointer (some ⟨b, 0, none⟩), .pointer (some ⟨x, 0, none⟩)] w fun e w' => ∃ r : Int, e = .returned (.int .i64 r) ∧ Post e w' := by
  have HW := hide h
  clear h
  go_enter Try.func22, Try.ntmps22
  go_wp2_with (go_at_call 23; refine HW.out.mono ?_; rintro e w' ⟨r, rfl, hp⟩; have HP := hide hp; clear hp)
  go_ret
  exact ⟨r, rfl, HP.out⟩
theorem stopAtS_by (s bm n b : Nat) (D : DataW Unit) (R B G : Int) (nm : ByteArray) (m : Int) (w w1 : World) (Post : Int → World → Prop) (hs : Store w s bm n D R B G) (hn : okName nm = true) (hsz : nm.size ≤ 140737488351232) (hd : D.atKey (key nm) .nil = .lit (.int .i64 (b : Int)))
    (hw1 : w.alloc (.cells #[.int .i64 m] 2) = w1)
    (hdo : Calls Try.prog 23 #[.pointer (some ⟨b, 0, none⟩), .int .i64 m] (w1.setCell ⟨s, 0, none⟩ (.int .i32 1)) fun e w' => ∃ r : Int, e = .returned (.int .i64 r) ∧ SAt w' s 1 bm R B G ∧ Post r (w'.setCell ⟨s, 0, none⟩ (.int .i32 0))) :
    Calls Try.prog 9 #[.pointer (some ⟨s, 0, none⟩), .string nm, .int .i64 m] w fun e w' => ∃ r : Int, e = .returned (.int .i64 r) ∧ Post r w' := by
  have hsl := hs.at_.lt
  have hB1 : Below w.heap.size w w1 := by rw [← hw1]; exact (Below.refl _ _).alloc (Nat.le_refl _) _
  have hx1 : w1.cell? ⟨w.heap.size, 0, none⟩ = some (.int .i64 m) := by rw [← hw1, cell_of_row _ _ _ _ _ _ (heap_alloc_new _ _)]; rfl
  have hS1 : SAt w1 s 0 bm R B G := hs.at_.grown (below_grown hB1) (by simp)
  have hM1 : MAt w1 bm n D := hs.map.grown (below_grown hB1) (by simp)
  have hne : w.heap.size ≠ s := by omega
  have hx2 : (w1.setCell ⟨s, 0, none⟩ (.int .i32 1)).cell? ⟨w.heap.size, 0, none⟩ = some (.int .i64 m) := by rw [World.cell?_setCell_other _ ⟨s, 0, none⟩ ⟨w.heap.size, 0, none⟩ _ (fun e => hne (congrArg Addr.block e).symm)]; exact hx1
  have HC := hide (onBlob_any s bm n b 22 R B G D nm #[.pointer (some ⟨w.heap.size, 0, none⟩)] w1
    (fun e w' => ∃ r : Int, e = .returned (.int .i64 r) ∧ Post r w') enterStop hS1 hM1 hs.ne hn hsz hd (by
      refine stop1_by b w.heap.size m _ (fun e w' => (∃ R' B' G', SAt w' s 1 bm R' B' G') ∧ ∃ r : Int, e = .returned (.int .i64 r) ∧ Post r (w'.setCell ⟨s, 0, none⟩ (.int .i32 0))) hx2 ?_
      refine hdo.mono ?_
      rintro e w' ⟨r, rfl, h1, h2⟩
      exact ⟨r, rfl, ⟨_, _, _, h1⟩, r, rfl, h2⟩))
  clear hB1 hx1 hS1 hM1 hx2 hdo hd hs
  go_enter Try.func9, Try.ntmps9
  go_wp2_with fail
  refine HC.out.mono ?_
  rintro e w' ⟨r, rfl, h1⟩
  have HF := hide h1
  clear h1
  go_wp2_with fail
  go_ret
  exact ⟨r, rfl, HF.out⟩
end Go.Proofs.Ytdcjhjpbkpiddaa.St
