/-
  The store in memory: its block, its map of blobs, a blob; what is done with a blob, under the lock.
-/
import Derived.Test.YtdcjhjpbkpiddaaStLocks
import Derived.Test.YtdcjhjpbkpiddaaStClone
import Derived.Test.YtdcjhjpbkpiddaaStName
import Derived.Test.YtdcjhjpbkpiddaaBase2
import Derived.Maps.OwnSet
import Derived.Maps.Views
import Derived.StringKeys
namespace Go.Proofs.Ytdcjhjpbkpiddaa.St
open Go.ChangeShapes Go.WideShapes Go.ChangeAt Go.RowKit Go.MuLone
open Go.Proofs.Ytdcjhjpbkpiddaa.Base
set_option linter.unusedVariables false
/-- The block s is a store: whether it is locked, its map, what has been read. -/
def SAt (w : World) (s : Nat) (lk : Int) (bm : Nat) (R B G : Int) : Prop := w.heap[s]? = some (.cells #[.int .i32 lk, .int .u32 0, .map (some bm), .int .i64 R, .int .i64 B, .int .i64 G] 58)
theorem SAt.cells {w : World} {s bm : Nat} {lk R B G : Int} (h : SAt w s lk bm R B G) : w.cell? ⟨s, 0, none⟩ = some (.int .i32 lk) ∧ w.cell? ⟨s, 1, none⟩ = some (.int .u32 0) ∧ w.cell? ⟨s, 2, none⟩ = some (.map (some bm)) ∧ w.cell? ⟨s, 3, none⟩ = some (.int .i64 R) ∧ w.cell? ⟨s, 4, none⟩ = some (.int .i64 B) ∧ w.cell? ⟨s, 5, none⟩ = some (.int .i64 G) := by
  refine ⟨?_, ?_, ?_, ?_, ?_, ?_⟩ <;> (rw [cell_of_row _ _ _ _ _ _ h]; rfl)
theorem SAt.frozen {w : World} {s bm : Nat} {lk R B G : Int} (h : SAt w s lk bm R B G) (k : Nat) : w.frozen? ⟨s, k, none⟩ = false := frozen_of_row _ _ _ _ _ h
theorem SAt.lt {w : World} {s bm : Nat} {lk R B G : Int} (h : SAt w s lk bm R B G) : s < w.heap.size := by
  by_cases hg : s < w.heap.size
  · exact hg
  · unfold SAt at h; rw [Array.getElem?_eq_none (by omega)] at h; cases h
theorem SAt.grown {w w' : World} {s bm : Nat} {lk R B G : Int} {q : Option Nat} (h : SAt w s lk bm R B G) (hg : w.grownBy w' q) (hq : q ≠ some s) : SAt w' s lk bm R B G := by
  unfold SAt; rw [hg.block s h.lt (fun e => hq e.symm)]; exact h
theorem SAt.lock {w : World} {s bm : Nat} {lk R B G : Int} (h : SAt w s lk bm R B G) (l' : Int) : SAt (w.setCell ⟨s, 0, none⟩ (.int .i32 l')) s l' bm R B G := by
  unfold SAt; rw [heap_setCell_same _ _ _ _ _ _ h]; rfl
theorem SAt.reads {w : World} {s bm : Nat} {lk R B G : Int} (h : SAt w s lk bm R B G) (x : Int) : SAt (w.setCell ⟨s, 3, none⟩ (.int .i64 x)) s lk bm x B G := by
  unfold SAt; rw [heap_setCell_same _ _ _ _ _ _ h]; rfl
theorem SAt.bytes {w : World} {s bm : Nat} {lk R B G : Int} (h : SAt w s lk bm R B G) (x : Int) : SAt (w.setCell ⟨s, 4, none⟩ (.int .i64 x)) s lk bm R x G := by
  unfold SAt; rw [heap_setCell_same _ _ _ _ _ _ h]; rfl
theorem SAt.great {w : World} {s bm : Nat} {lk R B G : Int} (h : SAt w s lk bm R B G) (x : Int) : SAt (w.setCell ⟨s, 5, none⟩ (.int .i64 x)) s lk bm R B x := by
  unfold SAt; rw [heap_setCell_same _ _ _ _ _ _ h]; rfl
/-- The block b is a blob: its bytes, its state, its stop, whether the stop has come. -/
def BAt (w : World) (b : Nat) (v : Value) (st sp : Int) (sd : Bool) : Prop := w.heap[b]? = some (.cells #[v, .int .i64 st, .int .i64 sp, .bool sd] 71)
theorem BAt.cells {w : World} {b : Nat} {v : Value} {st sp : Int} {sd : Bool} (h : BAt w b v st sp sd) : w.cell? ⟨b, 0, none⟩ = some v ∧ w.cell? ⟨b, 1, none⟩ = some (.int .i64 st) ∧ w.cell? ⟨b, 2, none⟩ = some (.int .i64 sp) ∧ w.cell? ⟨b, 3, none⟩ = some (.bool sd) := by
  refine ⟨?_, ?_, ?_, ?_⟩ <;> (rw [cell_of_row _ _ _ _ _ _ h]; rfl)
theorem BAt.frozen {w : World} {b : Nat} {v : Value} {st sp : Int} {sd : Bool} (h : BAt w b v st sp sd) (k : Nat) : w.frozen? ⟨b, k, none⟩ = false := frozen_of_row _ _ _ _ _ h
theorem BAt.lt {w : World} {b : Nat} {v : Value} {st sp : Int} {sd : Bool} (h : BAt w b v st sp sd) : b < w.heap.size := by
  by_cases hg : b < w.heap.size
  · exact hg
  · unfold BAt at h; rw [Array.getElem?_eq_none (by omega)] at h; cases h
theorem BAt.grown {w w' : World} {b : Nat} {v : Value} {st sp : Int} {sd : Bool} {q : Option Nat} (h : BAt w b v st sp sd) (hg : w.grownBy w' q) (hq : q ≠ some b) : BAt w' b v st sp sd := by
  unfold BAt; rw [hg.block b h.lt (fun e => hq e.symm)]; exact h
theorem BAt.data {w : World} {b : Nat} {v : Value} {st sp : Int} {sd : Bool} (h : BAt w b v st sp sd) (u : Value) : BAt (w.setCell ⟨b, 0, none⟩ u) b u st sp sd := by
  unfold BAt; rw [heap_setCell_same _ _ _ _ _ _ h]; rfl
theorem BAt.state {w : World} {b : Nat} {v : Value} {st sp : Int} {sd : Bool} (h : BAt w b v st sp sd) (x : Int) : BAt (w.setCell ⟨b, 1, none⟩ (.int .i64 x)) b v x sp sd := by
  unfold BAt; rw [heap_setCell_same _ _ _ _ _ _ h]; rfl
/-- How a pointer to a blob reads in the map. -/
def PR : Value → Option (DataW Unit × List MemPlace)
  | .pointer none => some (.nil, [])
  | .pointer (some a) => if a.off = 0 ∧ a.spot = none then some (.lit (.int .i64 a.block), []) else none
  | _ => none
theorem pr_nil : PR (.pointer none) = some (.nil, []) := rfl
theorem pr_at (b : Nat) : PR (.pointer (some ⟨b, 0, none⟩)) = some (.lit (.int .i64 b), []) := rfl
theorem pr_back {v : Value} {b : Nat} {ps : List MemPlace} (h : PR v = some (.lit (.int .i64 (b : Int)), ps)) : v = .pointer (some ⟨b, 0, none⟩) := by
  unfold PR at h
  split at h
  · simp at h
  · rename_i a
    split at h
    · rename_i ha
      obtain ⟨x, y, z⟩ := a
      simp only at ha
      obtain ⟨rfl, rfl⟩ := ha
      simp at h
      have : x = b := by omega
      rw [this]
    · cases h
  · cases h
theorem pr_none {v : Value} {ps : List MemPlace} (h : PR v = some (.nil, ps)) : v = .pointer none := by
  unfold PR at h
  split at h
  · rfl
  · split at h
    · simp at h
    · cases h
  · cases h
/-- The block bm is the map of blobs; D says which block has a name. -/
def MAt (w : World) (bm n : Nat) (D : DataW Unit) : Prop := w.ownsMap Try.prog 9 PR bm n D
theorem keyed : Maps.Keyed Try.prog 9 := Maps.string_keyed Try.underlying9
def key (s : ByteArray) : Lit := .string s.data.toList
theorem keyOf_name (s : ByteArray) (h : s.size ≤ maxLen) : keyOf Try.prog 9 (.string s) = some (key s) := WideMaps.keyOf_string_mk Try.underlying9 h
theorem zero_ptr (w : World) : (zeroValue 59).run Try.prog w = .ok (.pointer none) w := Try.zeroValue59 w
theorem MAt.look {w : World} {bm n b : Nat} {D : DataW Unit} {s : ByteArray} (h : MAt w bm n D) (hs : s.size ≤ maxLen) (hd : D.atKey (key s) .nil = .lit (.int .i64 (b : Int))) :
    (Instr.lookup 47 (.map (some bm)) (.string s) false).run Try.prog w = .ok (.pointer (some ⟨b, 0, none⟩)) w := by
  obtain ⟨v, ps, h1, h2⟩ := World.ownsMap.lookup h keyed Try.underlying47 (zero_ptr w) pr_nil (keyOf_name s hs)
  rw [hd] at h2
  rw [h1, pr_back h2]
theorem MAt.look_none {w : World} {bm n : Nat} {D : DataW Unit} {s : ByteArray} (h : MAt w bm n D) (hs : s.size ≤ maxLen) (hd : D.atKey (key s) .nil = .nil) :
    (Instr.lookup 47 (.map (some bm)) (.string s) false).run Try.prog w = .ok (.pointer none) w := by
  obtain ⟨v, ps, h1, h2⟩ := World.ownsMap.lookup h keyed Try.underlying47 (zero_ptr w) pr_nil (keyOf_name s hs)
  rw [hd] at h2
  rw [h1, pr_none h2]
theorem MAt.grown {w w' : World} {bm n : Nat} {D : DataW Unit} {q : Option Nat} (h : MAt w bm n D) (hg : w.grownBy w' q) (hq : q ≠ some bm) : MAt w' bm n D := World.ownsMap.kept h hg (fun e => hq e.symm)
set_option maxHeartbeats 1000000 in
set_option maxRecDepth 100000 in
/-- Something is done with the blob of that name. -/
theorem onBlob_any (s bm n b K : Nat) (R B G : Int) (D : DataW Unit) (nm : ByteArray) (caps : Array Value) (w : World) (Post : Ending → World → Prop) (hcf : ∀ (args : Array Value) (W : World), (callFunc K args).run Try.prog W = .ok (.enter K args) W)
    (hs : SAt w s 0 bm R B G) (hm : MAt w bm n D) (hsm : s ≠ bm) (hn : okName nm = true) (hsz : nm.size ≤ 140737488351232) (hd : D.atKey (key nm) .nil = .lit (.int .i64 (b : Int)))
    (hdo : Calls Try.prog K (#[.pointer (some ⟨b, 0, none⟩)] ++ caps) (w.setCell ⟨s, 0, none⟩ (.int .i32 1)) fun e w' => ∃ r : Int, e = .returned (.int .i64 r) ∧ (∃ R' B' G', SAt w' s 1 bm R' B' G') ∧ Post e (w'.setCell ⟨s, 0, none⟩ (.int .i32 0))) :
    Calls Try.prog 21 #[.pointer (some ⟨s, 0, none⟩), .string nm, .func (.func K) #[] caps] w Post := by
  obtain ⟨c0, c1, c2, c3, c4, c5⟩ := hs.cells
  have f0 := hs.frozen 0
  have HL := hide (lock_free muLib ⟨s, 0, none⟩ w c0 f0)
  have HREF := hide (refuse_any s nm w hsz hn)
  obtain ⟨w1, hw1⟩ : ∃ w1, w.setCell ⟨s, 0, none⟩ (.int .i32 1) = w1 := ⟨_, rfl⟩
  have HS1 : Hid (SAt w1 s 1 bm R B G) := by rw [← hw1]; exact hs.lock 1
  have HM1 : Hid (MAt w1 bm n D) := by rw [← hw1]; exact MAt.grown hm (grown_cell (World.grownBy.refl w (some s)) 0 (.int .i32 1)) (by simpa using hsm)
  have hlook := MAt.look HM1.out (by unfold maxLen; omega) hd
  rw [hw1] at hdo HL
  have HDO := hide hdo
  obtain ⟨d0, d1, d2, d3, d4, d5⟩ := HS1.out.cells
  clear hs hm hd hdo hw1 c0 c1 c2 c3 c4 c5 f0
  go_enter_defers Try.func21, Try.ntmps21
  go_wp2_with (first
    | (go_at_call 16; refine HREF.out.mono ?_; rintro e w' ⟨rfl, rfl⟩)
    | (go_at_call 17; refine HL.out.mono ?_; rintro e w' ⟨rfl, rfl⟩))
  refine HDO.out.mono ?_
  rintro e w2 ⟨r, rfl, ⟨R', B', G', hS2⟩, hpost⟩
  have HP := hide hpost
  have g0 := hS2.cells.1
  have gf := hS2.frozen 0
  clear hpost
  go_wp2_with fail
  refine leaves_cons (f := 18) (args := #[.pointer (some ⟨s, 0, none⟩)]) (by simp) (by simp [go_sem]) ?_
  refine (unlock_deferred muLib ⟨s, 0, none⟩ .returning _ g0 gf).mono ?_
  rintro e u' w'' ⟨rfl, rfl, rfl⟩
  refine ⟨_, results_tmp Try.results21 _ _ _, ?_⟩
  exact HP.out
theorem enter_of {K : Nat} {fn : Func} (hf : Try.prog.funcs[K]? = some fn) (hn : (fn.name == "runtime.NumGoroutine") = false) (hb : fn.body.isNone = false) (args : Array Value) (W : World) : (callFunc K args).run Try.prog W = .ok (.enter K args) W := by
  have hn' : ¬ fn.name = "runtime.NumGoroutine" := by simpa using hn
  have hb' : ¬ fn.body = none := by intro e; rw [e] at hb; cases hb
  simp [callFunc, hf, hn', hb', go_sem]
theorem enter53 (args : Array Value) (W : World) : (callFunc 24 args).run Try.prog W = .ok (.enter 24 args) W := enter_of Try.func24 (by kernel_rfl) (by kernel_rfl) args W
end Go.Proofs.Ytdcjhjpbkpiddaa.St
