/-
  Behind the pieces: List of the four blobs.
-/
import Derived.Test.YtdcjhjpbkpiddaaStRs
namespace Go.Proofs.Ytdcjhjpbkpiddaa.St
open Go.ChangeShapes Go.WideShapes Go.ChangeAt Go.RowKit
open Go.Proofs.Ytdcjhjpbkpiddaa.Base
set_option linter.unusedVariables false
def addrOf : Value → Option Addr
  | .slice a _ _ => a
  | _ => none
def capOf : Value → Nat
  | .slice _ _ c => c
  | _ => 0
theorem own_parts {w : World} {base : Nat} {v : Value} {xs : List (BitVec 8)} (h : Own w base v xs) : v = .slice (addrOf v) xs.length (capOf v) := by
  obtain ⟨a, c, rfl⟩ := h.shape
  rfl
theorem inv_list {w : World} {lo s bm lb base : Nat} {D : DataW Unit} {bl : Nat → Nat} {u : Nat → Value} {X Y : Nat → Bk} (f : Fix lo s bm lb base D bl) (I : Inv w s bm lb base D bl u X Y) (hl : ∀ k, k < 4 → (X k).xs.length ≤ 268435456) :
    Calls Try.prog 15 #[.pointer (some ⟨s, 0, none⟩), .string BP] w fun e w' => ∃ g c : Nat, e = .returned (.slice (some ⟨g, 0, none⟩) 4 c) ∧ w.heap.size ≤ g ∧ LBF w' lb (fun k c => bookF (u (4 + k)) (Y k) c) ∧ Below lo w w' ∧
      ∀ k, k < 4 → w'.cell? ⟨g, k * 3, none⟩ = some (.string (nameOf k)) ∧ w'.cell? ⟨g, k * 3 + 1, none⟩ = some (.int .i64 (X k).st) ∧ w'.cell? ⟨g, k * 3 + 2, none⟩ = some (.int .i64 ((X k).xs.length : Int)) := by
  obtain ⟨R, B, G, hs, hG⟩ := I.store
  refine (list_any s bm 4 D R B G bl (fun k => (X k).xs.length) (fun k => capOf (u k)) (fun k => addrOf (u k)) (fun k => (X k).st) (fun k => (X k).sp) (fun k => (X k).sd) w hs f.d2 f.d3 f.d1 (fun k hk => by rw [← own_parts (I.ownb k hk)]; exact I.blob k hk) (fun k hk e => (f.neb k hk).1 e.symm) hl).mono ?_
  rintro e w' ⟨g, c, rfl, h1, h2, h3⟩
  refine ⟨g, c, rfl, h1, I.book.grown h2 (fun e => f.ne.1 (Option.some.inj e)), ⟨h2.os, h2.tape, h2.output, h2.size, fun i hi => h2.block i (by have := f.low; have := I.size; omega) (fun e => by have h2 := Option.some.inj e; have := f.low; omega)⟩, fun k hk => h3 ⟨k, hk⟩⟩
end Go.Proofs.Ytdcjhjpbkpiddaa.St
