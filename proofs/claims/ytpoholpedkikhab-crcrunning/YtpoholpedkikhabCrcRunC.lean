/-
  What the program's running sums and the document's do, nil ones too.
-/
import Derived.Test.YtpoholpedkikhabCrcRun
import Derived.Test.YtpoholpedkikhabCrcRef
import Derived.Test.YtpoholpedkikhabBase2
namespace Go.Proofs.Ytpoholpedkikhab.Run
open Go.ChangeShapes Go.WideShapes Go.ChangeAt Go.RowKit
open Go.Proofs.Ytpoholpedkikhab.Crc
set_option linter.unusedVariables false
theorem write_nil (a : Option Addr) (len cap : Nat) (w : World) : Calls Try.prog 25 #[.pointer none, .slice a len cap] w fun e w' => e = .returned (.tuple #[]) ∧ w' = w := by
  go_enter Try.func25, Try.ntmps25
  go_wp2
  refine bodyPost_ret (results_none rfl _ _ _) rfl ?_
  exact ⟨rfl, rfl⟩
theorem reset_nil (w : World) : Calls Try.prog 32 #[.pointer none] w fun e w' => e = .returned (.tuple #[]) ∧ w' = w := by
  go_enter Try.func32, Try.ntmps32
  go_wp2
  refine bodyPost_ret (results_none rfl _ _ _) rfl ?_
  exact ⟨rfl, rfl⟩
theorem sum_nil (w : World) : Calls Try.prog 29 #[.pointer none] w fun e w' => e = .returned (.int .u32 0) ∧ w' = w := by
  go_enter Try.func29, Try.ntmps29
  go_wp2
  go_ret
  exact ⟨rfl, rfl⟩
theorem len_nil (w : World) : Calls Try.prog 30 #[.pointer none] w fun e w' => e = .returned (.int .i64 0) ∧ w' = w := by
  go_enter Try.func30, Try.ntmps30
  go_wp2
  go_ret
  exact ⟨rfl, rfl⟩
theorem reset_any (g n : Nat) (S : BitVec 32) (w : World) (h : Runs w g S n) : Calls Try.prog 32 #[.pointer (some ⟨g, 0, none⟩)] w fun e w' => e = .returned (.tuple #[]) ∧ Runs w' g (sum []) 0 ∧ w.grownBy w' (some g) := by
  have c0 := h.c0
  have c1 := h.c1
  have f0 : w.frozen? ⟨g, 0, none⟩ = false := frozen_of_row _ _ _ _ _ h
  have f1 : w.frozen? ⟨g, 1, none⟩ = false := frozen_of_row _ _ _ _ _ h
  have hp := hide (h.put (T := BitVec.ofNat 32 0) (m := 0))
  clear h
  go_enter Try.func32, Try.ntmps32
  go_wp2
  go_end0
  exact ⟨rfl, hp.out, grown_cell (grown_cell (World.grownBy.refl _ _) 0 _) 1 _⟩
/-- The document's running sum in block g: all that was taken. -/
def RefAt (w : World) (base g : Nat) (v : Value) (B : List (BitVec 8)) : Prop := w.heap[g]? = some (.cells #[v] 97) ∧ Base.Own w base v B
theorem RefAt.c0 {w : World} {base g : Nat} {v : Value} {B : List (BitVec 8)} (h : RefAt w base g v B) : w.cell? ⟨g, 0, none⟩ = some v := by
  rw [cell_of_row _ _ _ _ _ _ h.1]; rfl
theorem refNew_any (w : World) (base : Nat) : Calls Try.prog 33 #[] w fun e w' => ∃ g, e = .returned (.pointer (some ⟨g, 0, none⟩)) ∧ g = w.heap.size ∧ RefAt w' base g (.slice none 0 0) [] ∧ Below w.heap.size w w' ∧ w'.heap.size = w.heap.size + 1 := by
  go_enter Try.func33, Try.ntmps33
  go_wp2
  go_ret
  exact ⟨w.heap.size, rfl, rfl, ⟨heap_alloc_new _ _, Base.own_none _ _⟩, (Below.refl _ _).alloc (Nat.le_refl _) _, by simp⟩
theorem refReset_any (base g : Nat) (v : Value) (B : List (BitVec 8)) (w : World) (h : RefAt w base g v B) : Calls Try.prog 36 #[.pointer (some ⟨g, 0, none⟩)] w fun e w' => e = .returned (.tuple #[]) ∧ RefAt w' base g (.slice none 0 0) [] ∧ w.grownBy w' (some g) := by
  obtain ⟨a, c, rfl⟩ := h.2.shape
  have c0 := h.c0
  have f0 : w.frozen? ⟨g, 0, none⟩ = false := frozen_of_row _ _ _ _ _ h.1
  have H := hide h.1
  clear h
  go_enter Try.func36, Try.ntmps36
  go_wp2
  go_end0
  exact ⟨rfl, ⟨heap_setCell_same _ _ _ _ _ _ H.out, Base.own_none _ _⟩, grown_cell (World.grownBy.refl _ _) 0 _⟩
theorem refLen_any (base g : Nat) (v : Value) (B : List (BitVec 8)) (w : World) (h : RefAt w base g v B) : Calls Try.prog 40 #[.pointer (some ⟨g, 0, none⟩)] w fun e w' => e = .returned (.int .i64 (B.length : Nat)) ∧ w' = w := by
  obtain ⟨a, c, rfl⟩ := h.2.shape
  have c0 := h.c0
  clear h
  go_enter Try.func40, Try.ntmps40
  go_wp2
  go_ret
  exact ⟨rfl, rfl⟩
theorem rsum' (a : Option Addr) (len cap : Nat) (bs : List (BitVec 8)) (w : World) (hr : Base.Rd w a len bs) : Calls Try.prog 64 #[.slice a len cap] w fun e w' => e = .returned (.int .u32 ((sum bs).toNat : Int)) ∧ w' = w := refSum_any a len cap bs w hr
theorem refSumOf_any (base g : Nat) (v : Value) (B : List (BitVec 8)) (w : World) (h : RefAt w base g v B) (hl : B.length ≤ 140737488355328) : Calls Try.prog 39 #[.pointer (some ⟨g, 0, none⟩)] w fun e w' => e = .returned (.int .u32 ((sum B).toNat : Int)) ∧ w' = w := by
  obtain ⟨a, c, rfl⟩ := h.2.shape
  have c0 := h.c0
  have H := hide h.2
  clear h
  go_enter Try.func39, Try.ntmps39
  go_wp2_with fail
  refine (rsum' _ _ _ _ _ (Base.Got.rd H.out hl)).mono ?_
  rintro e w1 ⟨rfl, rfl⟩
  go_wp2_with fail
  go_ret
  exact ⟨rfl, rfl⟩
set_option maxRecDepth 100000 in
theorem refWrite_any (base g : Nat) (v : Value) (B : List (BitVec 8)) (xa : Option Addr) (m cap : Nat) (cs : List (BitVec 8)) (w : World) (h : RefAt w base g v B) (hr : Base.Rd w xa m cs) (hnil : xa = none → m = 0 ∧ cap = 0) (hl : B.length + m ≤ 140737488355328) (hbase : base ≤ w.heap.size) (hg : v.ownBlock ≠ some g) :
    Calls Try.prog 35 #[.pointer (some ⟨g, 0, none⟩), .slice xa m cap] w fun e w' => e = .returned (.tuple #[]) ∧ ∃ v', RefAt w' base g v' (B ++ cs) ∧ Base.Kept2 w w' (some g) v.ownBlock ∧ (v'.ownBlock = v.ownBlock ∨ ∃ b, v'.ownBlock = some b ∧ w.heap.size ≤ b) := by
  have hglt : g < w.heap.size := block_lt_of_cell h.c0
  obtain ⟨a, c, rfl⟩ := h.2.shape
  have c0 := h.c0
  have H := hide h
  have HR := hide hr
  have HN := hide hnil
  have HG := hide hg
  clear h hr hnil hg
  go_enter Try.func35, Try.ntmps35
  go_wp2_with (first
    | (at_builtin; refine Base.join2 _ rfl _ _ rfl base _ B rfl H.out.2 xa m cap cs rfl HR.out HN.out hl hbase ?_
       intro v' w2 hown hgrow hcase
       obtain ⟨a', c', hv'⟩ := hown.shape
       rw [List.length_append] at hv'
       subst hv'
       have HO := hide hown
       have HW : Hid (w.grownBy w2 (Value.slice a B.length c).ownBlock) := hgrow
       have HC : Hid ((Value.slice a' (B.length + cs.length) c').ownBlock = (Value.slice a B.length c).ownBlock ∨ ∃ b, (Value.slice a' (B.length + cs.length) c').ownBlock = some b ∧ w.heap.size ≤ b) := hcase
       have hrow : w2.heap[g]? = some (.cells #[.slice a B.length c] 97) := by
         rw [hgrow.block g hglt (fun e => HG.out e.symm)]; exact H.out.1
       have d0 : w2.cell? ⟨g, 0, none⟩ = some (.slice a B.length c) := by rw [cell_of_row _ _ _ _ _ _ hrow]; rfl
       have f0 : w2.frozen? ⟨g, 0, none⟩ = false := frozen_of_row _ _ _ _ _ hrow
       have HRow := hide hrow
       clear hown hgrow hcase hrow)
    | fail)
  go_end0
  refine ⟨rfl, _, ⟨heap_setCell_same _ _ _ _ _ _ HRow.out, ?_⟩, ?_, HC.out⟩
  · refine Base.keep HO.out (grown_cell (World.grownBy.refl _ _) 0 _) (fun i j e1 e2 => ?_)
    have e3 : g = j := Option.some.inj e2
    subst e3
    rcases HC.out with e | ⟨b, e, hb⟩
    · intro e4; subst e4; exact HG.out (by rw [← e]; exact e1)
    · intro e4; subst e4; rw [e] at e1; cases e1; omega
  · exact ((Base.Kept2.refl w (some g) _).grown HW.out (fun i e => .inr (.inl rfl))).grown (grown_cell (World.grownBy.refl _ _) 0 _) (fun i e => .inl rfl)
end Go.Proofs.Ytpoholpedkikhab.Run
