/-
  What stands between two rounds of MergeAll: the merge, how many things have been taken, the frame.
-/
import Derived.Test.YtcnfkgmefikcjaaMeIterL
import Derived.Test.YtcnfkgmefikcjaaMeTells0
import Derived.Test.YtcnfkgmefikcjaaIBase
namespace Go.Proofs.Ytcnfkgmefikcjaa.Me
open Go.ChangeShapes Go.WideShapes Go.ChangeAt Go.RowKit
open Go.Proofs.Ytcnfkgmefikcjaa.Base Go.Proofs.Ytcnfkgmefikcjaa.Rg
set_option linter.unusedVariables false
/-- What stays: whose blocks are there. -/
structure Fx (w6 : World) (gm g2 n gn : Nat) (gf : Nat → Nat) (B : Nat → Fd) : Prop where
  all : ∀ b, All n gm g2 gf b → b < w6.heap.size ∧ b ≠ gn
  src : ∀ j, j < n → ∀ b off, (B j).a = some ⟨b, off, none⟩ → 0 < (B j).ts.length → b < w6.heap.size ∧ b ≠ gn
  lt : gn < w6.heap.size
/-- The merge has told q things, the number says p. -/
structure AL (w6 W : World) (gm g2 n gn : Nat) (gf : Nat → Nat) (B : Nat → Fd) (L : List Th) (q p : Nat) : Prop where
  at_ : AtA W gm g2 n gf B (L.take q)
  num : W.heap[gn]? = some (.cells #[.int .i64 (p : Int)] 3)
  tn : Tn w6 W (fun b => All n gm g2 gf b ∨ b = gn)
theorem AL.cell {w6 W : World} {gm g2 n gn : Nat} {gf : Nat → Nat} {B : Nat → Fd} {L : List Th} {q p : Nat} (h : AL w6 W gm g2 n gn gf B L q p) : W.cell? ⟨gn, 0, none⟩ = some (.int .i64 (p : Int)) := by rw [cell_of_row _ _ _ _ _ _ h.num]; rfl
theorem AL.frozen {w6 W : World} {gm g2 n gn : Nat} {gf : Nat → Nat} {B : Nat → Fd} {L : List Th} {q p : Nat} (h : AL w6 W gm g2 n gn gf B L q p) : W.frozen? ⟨gn, 0, none⟩ = false := frozen_of_row _ _ _ _ _ h.num
theorem AL.below {w6 W W' : World} {gm g2 n gn : Nat} {gf : Nat → Nat} {B : Nat → Fd} {L : List Th} {q p : Nat} (h : AL w6 W gm g2 n gn gf B L q p) (hb : Below W.heap.size W W') : AL w6 W' gm g2 n gn gf B L q p :=
  ⟨h.at_.below hb, (hb.block gn (lt_row h.num)).trans h.num, h.tn.trans (Tn.of_below _ hb)⟩
theorem AL.next {w6 W W' : World} {gm g2 n gn : Nat} {gf : Nat → Nat} {B : Nat → Fd} {L : List Th} {q p : Nat} (f : Fx w6 gm g2 n gn gf B) (h : AL w6 W gm g2 n gn gf B L q p) (ht : Tn W W' (All n gm g2 gf)) (ha : AtA W' gm g2 n gf B (L.take (q + 1))) : AL w6 W' gm g2 n gn gf B L (q + 1) p :=
  ⟨ha, (ht.block gn (lt_row h.num) (fun e => (f.all gn e).2 rfl)).trans h.num, h.tn.trans (ht.mono fun _ e => .inl e)⟩
theorem AL.step {w6 W : World} {gm g2 n gn : Nat} {gf : Nat → Nat} {B : Nat → Fd} {L : List Th} {q p : Nat} (f : Fx w6 gm g2 n gn gf B) (h : AL w6 W gm g2 n gn gf B L q p) : AL w6 (W.setCell ⟨gn, 0, none⟩ (.int .i64 ((p : Int) + 1))) gm g2 n gn gf B L q (p + 1) := by
  have hg := grown_cell (World.grownBy.refl W (some gn)) 0 (.int .i64 ((p : Int) + 1))
  have ht : Tn W (W.setCell ⟨gn, 0, none⟩ (.int .i64 ((p : Int) + 1))) (fun b => b = gn) := Tn.of_grown _ hg rfl
  refine ⟨h.at_.apart ht (fun j hj => (f.all j hj).2) (fun j hj b off e1 e2 => (f.src j hj b off e1 e2).2), ?_, h.tn.trans (ht.mono fun _ e => .inr e)⟩
  rw [heap_setCell_same _ _ _ _ _ _ h.num]
  simp
theorem AL.put {w6 W : World} {gm g2 n gn : Nat} {gf : Nat → Nat} {B : Nat → Fd} {L : List Th} {q p : Nat} (f : Fx w6 gm g2 n gn gf B) (h : AL w6 W gm g2 n gn gf B L q p) {j : Nat} (hj : w6.heap.size ≤ j) (o' : Obj) : AL w6 (W.putObj j o') gm g2 n gn gf B L q p := by
  have ht : Tn W (W.putObj j o') (fun b => b = j) := ⟨rfl, rfl, rfl, by simp, fun i hi hne => World.putObj_heap_other hne⟩
  have hgn := f.lt
  refine ⟨h.at_.apart ht (fun b hb e => by have := (f.all b hb).1; omega) (fun k hk b off e1 e2 e => by have := (f.src k hk b off e1 e2).1; omega), (World.putObj_heap_other (by omega)).trans h.num, ?_⟩
  exact ⟨h.tn.os, h.tn.tape, h.tn.output, by simp; exact h.tn.size, fun i hi hS => (World.putObj_heap_other (by omega)).trans (h.tn.block i hi hS)⟩
theorem AL.keep {w6 W : World} {gm g2 n gn : Nat} {gf : Nat → Nat} {B : Nat → Fd} {L : List Th} {q p : Nat} (h : AL w6 W gm g2 n gn gf B L q p) {b : Nat} {o : Obj} (hb : w6.heap[b]? = some o) (h1 : ¬ All n gm g2 gf b) (h2 : b ≠ gn) : W.heap[b]? = some o :=
  (h.tn.block b (Array.getElem?_eq_some_iff.1 hb).1 (fun e => e.elim h1 h2)).trans hb
/-- A setCell into a box elsewhere. -/
theorem AL.other {w6 W W' : World} {gm g2 n gn g : Nat} {gf : Nat → Nat} {B : Nat → Fd} {L : List Th} {q p : Nat} (f : Fx w6 gm g2 n gn gf B) (h : AL w6 W gm g2 n gn gf B L q p) (hg : W.grownBy W' (some g)) (hlt : w6.heap.size ≤ g) : AL w6 W' gm g2 n gn gf B L q p := by
  have ht : Tn W W' (fun b => b = g) := Tn.of_grown _ hg rfl
  have hgn := f.lt
  refine ⟨h.at_.apart ht (fun b hb e => by have := (f.all b hb).1; omega) (fun k hk b off e1 e2 e => by have := (f.src k hk b off e1 e2).1; omega), (ht.block gn (lt_row h.num) (by omega)).trans h.num, ?_⟩
  exact ⟨ht.os.trans h.tn.os, ht.tape.trans h.tn.tape, ht.output.trans h.tn.output, Nat.le_trans h.tn.size ht.size, fun i hi hS => (ht.block i (Nat.lt_of_lt_of_le hi h.tn.size) (by omega)).trans (h.tn.block i hi hS)⟩
theorem keeps_cells {B : Nat} {W W' : World} {b : Nat} {cs : Array Value} {t : TypeId} (hg : W.grownBy W' (some b)) (hb : W.heap[b]? = some (.cells cs t)) : KeepsFrom B W W' :=
  (KeepsOthers.of_grownBy hg (fun j o e ho => by cases e; rw [hb] at ho; cases ho; rfl)).from B
/-- A mark stays where a merge turns. -/
theorem tn_mark {w w' : World} {gm g2 n D : Nat} {gf : Nat → Nat} {B : Nat → Fd} {P : List Th} {s : Option (List Deferred)} (ht : Tn w w' (All n gm g2 gf)) (ha : AtA w gm g2 n gf B P) (h : w.heap[D]? = some (.deferred s)) : w'.heap[D]? = some (.deferred s) :=
  (ht.block D (Array.getElem?_eq_some_iff.1 h).1 (fun e => by have := ha.cells D _ e h; cases this)).trans h
theorem mark_cell {B : Nat} {w : World} {ds : List Deferred} {g : Nat} {cs : Array Value} {t : TypeId} {v : Value} (h : Marks B w ds) (hg : w.heap[g]? = some (.cells cs t)) : Marks B (w.setCell ⟨g, 0, none⟩ v) ds :=
  h.kept (fun D _ hD => ((grown_cell (World.grownBy.refl w (some g)) 0 v).block D (Array.getElem?_eq_some_iff.1 hD).1 (fun e => by have e2 : D = g := Option.some.inj e; rw [e2, hg] at hD; cases hD)).trans hD)
theorem cell_of_block {w w' : World} {b j : Nat} (h : w'.heap[b]? = w.heap[b]?) : w'.cell? ⟨b, j, none⟩ = w.cell? ⟨b, j, none⟩ := by
  unfold World.cell?
  rw [h]
/-- What stands within the range: k things taken by it. -/
structure LI (w6 v2 W : World) (gm g2 n gn gq : Nat) (gf : Nat → Nat) (B : Nat → Fd) (L : List Th) (kk : Int) (p K k q : Nat) : Prop where
  al : AL w6 W gm g2 n gn gf B L q (p + k)
  kb : W.heap[gq]? = some (.cells #[.int .i64 (kk - (k : Int))] 3)
  tn : Tn v2 W (fun b => All n gm g2 gf b ∨ b = gn ∨ b = gq)
  lt : p + k < K
  kl : (k : Int) < kk
/-- What stands where the range was left. -/
structure LX (w6 v2 W : World) (gm g2 n gn gq : Nat) (gf : Nat → Nat) (B : Nat → Fd) (L : List Th) (p K k : Nat) : Prop where
  al : AL w6 W gm g2 n gn gf B L (p + k + 1) (p + k + 1)
  tn : Tn v2 W (fun b => All n gm g2 gf b ∨ b = gn ∨ b = gq)
  lt : p + k < K
theorem put_tn {v2 W : World} {S : Nat → Prop} {j : Nat} {o' : Obj} (h : Tn v2 W S) (hj : v2.heap.size ≤ j) : Tn v2 (W.putObj j o') S :=
  ⟨h.os, h.tape, h.output, by simp; exact h.size, fun i hi hS => (World.putObj_heap_other (by omega)).trans (h.block i hi hS)⟩
theorem LI.put {w6 v2 W : World} {gm g2 n gn gq : Nat} {gf : Nat → Nat} {B : Nat → Fd} {L : List Th} {kk : Int} {p K k q : Nat} (f : Fx w6 gm g2 n gn gf B) (h6 : w6.heap.size ≤ v2.heap.size) (h : LI w6 v2 W gm g2 n gn gq gf B L kk p K k q) {j : Nat} (o' : Obj) (hj : v2.heap.size ≤ j) (hq : gq < v2.heap.size) : LI w6 v2 (W.putObj j o') gm g2 n gn gq gf B L kk p K k q :=
  ⟨h.al.put f (by omega) o', (World.putObj_heap_other (by omega)).trans h.kb, put_tn h.tn hj, h.lt, h.kl⟩
theorem LX.put {w6 v2 W : World} {gm g2 n gn gq : Nat} {gf : Nat → Nat} {B : Nat → Fd} {L : List Th} {p K k : Nat} (f : Fx w6 gm g2 n gn gf B) (h6 : w6.heap.size ≤ v2.heap.size) (h : LX w6 v2 W gm g2 n gn gq gf B L p K k) {j : Nat} (o' : Obj) (hj : v2.heap.size ≤ j) : LX w6 v2 (W.putObj j o') gm g2 n gn gq gf B L p K k :=
  ⟨h.al.put f (by omega) o', put_tn h.tn hj, h.lt⟩
theorem LI.below {w6 v2 W W' : World} {gm g2 n gn gq : Nat} {gf : Nat → Nat} {B : Nat → Fd} {L : List Th} {kk : Int} {p K k q : Nat} (h : LI w6 v2 W gm g2 n gn gq gf B L kk p K k q) (hb : Below W.heap.size W W') : LI w6 v2 W' gm g2 n gn gq gf B L kk p K k q :=
  ⟨h.al.below hb, (hb.block gq (lt_row h.kb)).trans h.kb, h.tn.trans (Tn.of_below _ hb), h.lt, h.kl⟩
theorem LI.next {w6 v2 W W' : World} {gm g2 n gn gq : Nat} {gf : Nat → Nat} {B : Nat → Fd} {L : List Th} {kk : Int} {p K k q : Nat} (f : Fx w6 gm g2 n gn gf B) (hq : w6.heap.size ≤ gq) (h : LI w6 v2 W gm g2 n gn gq gf B L kk p K k q) (ht : Tn W W' (All n gm g2 gf)) (ha : AtA W' gm g2 n gf B (L.take (q + 1))) : LI w6 v2 W' gm g2 n gn gq gf B L kk p K k (q + 1) :=
  ⟨h.al.next f ht ha, (ht.block gq (lt_row h.kb) (fun e => by have := (f.all gq e).1; omega)).trans h.kb, h.tn.trans (ht.mono fun _ e => .inl e), h.lt, h.kl⟩
/-- One thing counted: the number up, the rest down. -/
theorem LI.count {w6 v2 W : World} {gm g2 n gn gq : Nat} {gf : Nat → Nat} {B : Nat → Fd} {L : List Th} {kk : Int} {p K k : Nat} (f : Fx w6 gm g2 n gn gf B) (hq : w6.heap.size ≤ gq) (h : LI w6 v2 W gm g2 n gn gq gf B L kk p K k (p + k + 1)) (z : Int) (hz : kk - (k : Int) - 1 = z) :
    AL w6 ((W.setCell ⟨gn, 0, none⟩ (.int .i64 (((p + k : Nat) : Int) + 1))).setCell ⟨gq, 0, none⟩ (.int .i64 z)) gm g2 n gn gf B L (p + k + 1) (p + k + 1) ∧ ((W.setCell ⟨gn, 0, none⟩ (.int .i64 (((p + k : Nat) : Int) + 1))).setCell ⟨gq, 0, none⟩ (.int .i64 z)).heap[gq]? = some (.cells #[.int .i64 z] 3) ∧ Tn v2 ((W.setCell ⟨gn, 0, none⟩ (.int .i64 (((p + k : Nat) : Int) + 1))).setCell ⟨gq, 0, none⟩ (.int .i64 z)) (fun b => All n gm g2 gf b ∨ b = gn ∨ b = gq) ∧ ∀ Bs, KeepsFrom Bs W ((W.setCell ⟨gn, 0, none⟩ (.int .i64 (((p + k : Nat) : Int) + 1))).setCell ⟨gq, 0, none⟩ (.int .i64 z)) := by
  have hlt := f.lt
  have h1 := h.al.step f
  have hg := grown_cell (World.grownBy.refl W (some gn)) 0 (.int .i64 (((p + k : Nat) : Int) + 1))
  have h2 : (W.setCell ⟨gn, 0, none⟩ (.int .i64 (((p + k : Nat) : Int) + 1))).heap[gq]? = some (.cells #[.int .i64 (kk - (k : Int))] 3) := (hg.block gq (lt_row h.kb) (fun e => by have e2 : gq = gn := Option.some.inj e; omega)).trans h.kb
  have hg2 := grown_cell (World.grownBy.refl (W.setCell ⟨gn, 0, none⟩ (.int .i64 (((p + k : Nat) : Int) + 1))) (some gq)) 0 (.int .i64 z)
  refine ⟨h1.other f hg2 hq, ?_, ?_, fun Bs => (keeps_cells hg h.al.num).trans (keeps_cells hg2 h2)⟩
  · rw [heap_setCell_same _ _ _ _ _ _ h2]; simp
  · exact (h.tn.trans (Tn.of_grown _ hg (.inr (.inl rfl)))).trans (Tn.of_grown _ hg2 (.inr (.inr rfl)))
theorem tn_marks {B : Nat} {v2 W : World} {ds : List Deferred} {gm g2 n gn gq : Nat} {gf : Nat → Nat} {B2 : Nat → Fd} {P : List Th} {cs cs2 : Array Value} {t t2 : TypeId} (h : Marks B v2 ds) (ht : Tn v2 W (fun b => All n gm g2 gf b ∨ b = gn ∨ b = gq)) (ha : AtA v2 gm g2 n gf B2 P) (hn : v2.heap[gn]? = some (.cells cs t)) (hq : v2.heap[gq]? = some (.cells cs2 t2)) : Marks B W ds :=
  h.kept (fun D _ hD => (ht.block D (Array.getElem?_eq_some_iff.1 hD).1 (fun e => by
    rcases e with e | e | e
    · have := ha.cells D _ e hD; cases this
    · rw [e, hn] at hD; cases hD
    · rw [e, hq] at hD; cases hD)).trans hD)
/-- What stands within the last range. -/
structure LE (w6 v2 W : World) (gm g2 n gn : Nat) (gf : Nat → Nat) (B : Nat → Fd) (L : List Th) (p k q : Nat) : Prop where
  al : AL w6 W gm g2 n gn gf B L q (p + k)
  tn : Tn v2 W (fun b => All n gm g2 gf b ∨ b = gn)
/-- What stands behind it. -/
structure LF (v2 W : World) (gm g2 n gn : Nat) (gf : Nat → Nat) (x : Int) (A : Nat → Nat) (K : Nat) : Prop where
  en : EndA W gm n gf x A
  num : W.heap[gn]? = some (.cells #[.int .i64 (K : Int)] 3)
  tn : Tn v2 W (fun b => All n gm g2 gf b ∨ b = gn)
theorem LE.put {w6 v2 W : World} {gm g2 n gn : Nat} {gf : Nat → Nat} {B : Nat → Fd} {L : List Th} {p k q : Nat} (f : Fx w6 gm g2 n gn gf B) (h6 : w6.heap.size ≤ v2.heap.size) (h : LE w6 v2 W gm g2 n gn gf B L p k q) {j : Nat} (o' : Obj) (hj : v2.heap.size ≤ j) : LE w6 v2 (W.putObj j o') gm g2 n gn gf B L p k q :=
  ⟨h.al.put f (by omega) o', put_tn h.tn hj⟩
theorem LE.below {w6 v2 W W' : World} {gm g2 n gn : Nat} {gf : Nat → Nat} {B : Nat → Fd} {L : List Th} {p k q : Nat} (h : LE w6 v2 W gm g2 n gn gf B L p k q) (hb : Below W.heap.size W W') : LE w6 v2 W' gm g2 n gn gf B L p k q :=
  ⟨h.al.below hb, h.tn.trans (Tn.of_below _ hb)⟩
theorem LE.next {w6 v2 W W' : World} {gm g2 n gn : Nat} {gf : Nat → Nat} {B : Nat → Fd} {L : List Th} {p k q : Nat} (f : Fx w6 gm g2 n gn gf B) (h : LE w6 v2 W gm g2 n gn gf B L p k q) (ht : Tn W W' (All n gm g2 gf)) (ha : AtA W' gm g2 n gf B (L.take (q + 1))) : LE w6 v2 W' gm g2 n gn gf B L p k (q + 1) :=
  ⟨h.al.next f ht ha, h.tn.trans (ht.mono fun _ e => .inl e)⟩
theorem LE.last {w6 v2 W W' : World} {gm g2 n gn : Nat} {gf : Nat → Nat} {B : Nat → Fd} {L : List Th} {p k q K : Nat} {x : Int} {A : Nat → Nat} (f : Fx w6 gm g2 n gn gf B) (h : LE w6 v2 W gm g2 n gn gf B L p k q) (hK : p + k = K) (ht : Tn W W' (All n gm g2 gf)) (he : EndA W' gm n gf x A) : LF v2 W' gm g2 n gn gf x A K :=
  ⟨he, (ht.block gn (lt_row h.al.num) (fun e => (f.all gn e).2 rfl)).trans (by rw [← hK]; exact h.al.num), h.tn.trans (ht.mono fun _ e => .inl e)⟩
theorem LE.count {w6 v2 W : World} {gm g2 n gn : Nat} {gf : Nat → Nat} {B : Nat → Fd} {L : List Th} {p k : Nat} (f : Fx w6 gm g2 n gn gf B) (h : LE w6 v2 W gm g2 n gn gf B L p k (p + k + 1)) :
    LE w6 v2 (W.setCell ⟨gn, 0, none⟩ (.int .i64 (((p + k : Nat) : Int) + 1))) gm g2 n gn gf B L p (k + 1) (p + k + 1) ∧ ∀ Bs, KeepsFrom Bs W (W.setCell ⟨gn, 0, none⟩ (.int .i64 (((p + k : Nat) : Int) + 1))) := by
  have hg := grown_cell (World.grownBy.refl W (some gn)) 0 (.int .i64 (((p + k : Nat) : Int) + 1))
  exact ⟨⟨h.al.step f, h.tn.trans (Tn.of_grown _ hg (.inr rfl))⟩, fun Bs => keeps_cells hg h.al.num⟩
theorem LF.put {v2 W : World} {gm g2 n gn : Nat} {gf : Nat → Nat} {x : Int} {A : Nat → Nat} {K : Nat} (hgm : gm < v2.heap.size) (hgf : ∀ j, j < n → gf j < v2.heap.size) (hgn : gn < v2.heap.size) (h : LF v2 W gm g2 n gn gf x A K) {j : Nat} (o' : Obj) (hj : v2.heap.size ≤ j) : LF v2 (W.putObj j o') gm g2 n gn gf x A K := by
  obtain ⟨⟨e1, e2, e3⟩, fd, h2, h3⟩ := h.en
  have hm : (W.putObj j o').heap[gm]? = W.heap[gm]? := World.putObj_heap_other (by omega)
  exact ⟨⟨⟨by simp; exact e1, (cell_of_block hm).trans e2, (cell_of_block hm).trans e3⟩, fd, fun i hi => (h2 i hi).same (World.putObj_heap_other (by have := hgf i hi; omega)), h3⟩, (World.putObj_heap_other (by omega)).trans h.num, put_tn h.tn hj⟩
theorem tn_marks2 {B : Nat} {v2 W : World} {ds : List Deferred} {gm g2 n gn : Nat} {gf : Nat → Nat} {B2 : Nat → Fd} {P : List Th} {cs : Array Value} {t : TypeId} (h : Marks B v2 ds) (ht : Tn v2 W (fun b => All n gm g2 gf b ∨ b = gn)) (ha : AtA v2 gm g2 n gf B2 P) (hn : v2.heap[gn]? = some (.cells cs t)) : Marks B W ds :=
  h.kept (fun D _ hD => (ht.block D (Array.getElem?_eq_some_iff.1 hD).1 (fun e => by
    rcases e with e | e
    · have := ha.cells D _ e hD; cases this
    · rw [e, hn] at hD; cases hD)).trans hD)
/-- The end: true is laid into the result's box. -/
theorem leave_true2 {fn : Func} {tmps : Array Value} {w w4 W : World} {gr : Nat} {ds : List Deferred} (hfn : fn.results = #[.cell 4 4]) (ht : tmps.getD 4 undef = .pointer (some ⟨gr, 0, none⟩)) {v : Value} (hb : W.heap[gr]? = some (.cells #[v] 4)) (hgr : w.heap.size ≤ gr) (hg4 : gr < w4.heap.size) (hW : w4.heap.size ≤ W.heap.size) (hB : Below w.heap.size w W) (hm : Marks w4.heap.size W ds) :
    LeavesInM Fence.wide 1 Try.prog fn tmps (fun e w' => e = .returned (.bool true) ∧ Below w.heap.size w w') ds .returning (W.setCell ⟨gr, 0, none⟩ (.bool true)) := by
  have hgs := grown_cell (World.grownBy.refl W (some gr)) 0 (.bool true)
  refine leaves_marks (B := w4.heap.size) (v := .bool true) (gc := gr) hg4 (load_bool (p := 4) hfn gr true ht) _ _ ?_ ?_ ?_ ?_
  · exact Nat.le_trans hW hgs.size
  · exact mark_cell hm hb
  · rw [cell_of_row _ _ _ _ _ _ (heap_setCell_same _ _ _ _ _ _ hb)]; rfl
  · intro V hV
    refine ⟨rfl, ?_⟩
    have h2 : Below w.heap.size w (W.setCell ⟨gr, 0, none⟩ (.bool true)) := hB.grown hgs hB.size (fun i e => by cases e; exact hgr)
    exact h2.trans (hV.mono (by omega))
set_option maxRecDepth 100000 in
/-- A frame of 171 slots, written out. -/
theorem spread (t : Array Value) (h : t.size = 171) : ∃ U : Nat → Value, (∀ i, U i = t.getD i undef) ∧ t = #[U 0, U 1, U 2, U 3, U 4, U 5, U 6, U 7, U 8, U 9, U 10, U 11, U 12, U 13, U 14, U 15, U 16, U 17, U 18, U 19, U 20, U 21, U 22, U 23, U 24, U 25, U 26, U 27, U 28, U 29, U 30, U 31, U 32, U 33, U 34, U 35, U 36, U 37, U 38, U 39, U 40, U 41, U 42, U 43, U 44, U 45, U 46, U 47, U 48, U 49, U 50, U 51, U 52, U 53, U 54, U 55, U 56, U 57, U 58, U 59, U 60, U 61, U 62, U 63, U 64, U 65, U 66, U 67, U 68, U 69, U 70, U 71, U 72, U 73, U 74, U 75, U 76, U 77, U 78, U 79, U 80, U 81, U 82, U 83, U 84, U 85, U 86, U 87, U 88, U 89, U 90, U 91, U 92, U 93, U 94, U 95, U 96, U 97, U 98, U 99, U 100, U 101, U 102, U 103, U 104, U 105, U 106, U 107, U 108, U 109, U 110, U 111, U 112, U 113, U 114, U 115, U 116, U 117, U 118, U 119, U 120, U 121, U 122, U 123, U 124, U 125, U 126, U 127, U 128, U 129, U 130, U 131, U 132, U 133, U 134, U 135, U 136, U 137, U 138, U 139, U 140, U 141, U 142, U 143, U 144, U 145, U 146, U 147, U 148, U 149, U 150, U 151, U 152, U 153, U 154, U 155, U 156, U 157, U 158, U 159, U 160, U 161, U 162, U 163, U 164, U 165, U 166, U 167, U 168, U 169, U 170] := by
  refine ⟨fun i => t.getD i undef, fun _ => rfl, ?_⟩
  have e : t = ((List.range 171).map fun i => t.getD i undef).toArray := by
    apply Array.ext
    · simp [h]
    · intro i h1 h2
      simp [h1]
  exact e
/-- The slots that live through the loop. -/
def Frm (ta : Option Addr) (tl tc gr gm gb gn i : Nat) (t : Array Value) : Prop :=
  t.size = 171 ∧ t.getD 1 undef = .slice ta tl tc ∧ t.getD 4 undef = .pointer (some ⟨gr, 0, none⟩) ∧ t.getD 6 undef = .pointer (some ⟨gm, 0, none⟩) ∧ t.getD 8 undef = .pointer (some ⟨gb, 0, none⟩) ∧ t.getD 10 undef = .pointer (some ⟨gn, 0, none⟩) ∧ t.getD 11 undef = .int .i64 (i : Int)
end Go.Proofs.Ytcnfkgmefikcjaa.Me
