/-
  The statements' helpers on texts: with marks behind them; the same; each with a letter more.
-/
import Derived.Test.YtmndjgmlndpgaaaDoorFiRefB2
import Derived.Laws.Concat
namespace Go.Proofs.YtmndjgmlndpgaaaDoor.Filt
open Go.ChangeShapes Go.WideShapes Go.ChangeAt Go.RowKit
open Go.Proofs.YtmndjgmlndpgaaaDoor.Base hiding hide unhide lt8
set_option linter.unusedVariables false
theorem svals_set (ss : List ByteArray) (k : Nat) (c : ByteArray) : (svals ss).set k (.string c) = svals (ss.set k c) := by simp [svals, List.map_set]
theorem svals_get (ss : List ByteArray) (i : Nat) (h : i < ss.length) : (svals ss)[i]? = some (.string (ss.getD i ⟨#[]⟩)) := by
  rw [svals, List.getElem?_map, List.getElem?_eq_getElem h, List.getD_eq_getElem?_getD, List.getElem?_eq_getElem h]; rfl
theorem OwnS.len {w : World} {base g n cap : Nat} {ss : List ByteArray} (h : OwnS w base (.slice (some ⟨g, 0, none⟩) n cap) ss) : n = ss.length := by
  rcases h.2 with ⟨h1, _⟩ | ⟨_, _, _, h1, _⟩
  · simp at h1
  · simp at h1; exact h1.2.1
theorem OwnS.cell {w : World} {base g n cap : Nat} {ss : List ByteArray} (h : OwnS w base (.slice (some ⟨g, 0, none⟩) n cap) ss) (k : Nat) (hk : k < n) : w.cell? ⟨g, k, none⟩ = some (.string (ss.getD k ⟨#[]⟩)) := by
  have hn := h.len
  subst hn
  rw [World.ownsRow.cellAt h k (by omega), svals_get ss k hk]
theorem OwnS.frozen {w : World} {base g n cap : Nat} {ss : List ByteArray} (h : OwnS w base (.slice (some ⟨g, 0, none⟩) n cap) ss) (k : Nat) : w.frozen? ⟨g, k, none⟩ = false := by
  have hn := h.len
  subst hn
  exact World.ownsRow.frozenAt h k
theorem OwnS.store {w : World} {base g n cap : Nat} {ss : List ByteArray} (h : OwnS w base (.slice (some ⟨g, 0, none⟩) n cap) ss) (k : Nat) (c : ByteArray) :
    OwnS (w.setCell ⟨g, k, none⟩ (.string c)) base (.slice (some ⟨g, 0, none⟩) n cap) (ss.set k c) ∧ w.grownBy (w.setCell ⟨g, k, none⟩ (.string c)) (some g) := by
  have hn := h.len
  subst hn
  have := World.ownsRow.stored h k (.string c)
  unfold OwnS
  rw [List.length_set, ← svals_set]
  exact this
theorem own_heapS {w : World} {base g : Nat} {ss : List ByteArray} (h : w.heap[g]? = some (.cells (svals ss).toArray 9)) (hb : base ≤ g) (hm : ss.length ≤ maxLen) : OwnS w base (.slice (some ⟨g, 0, none⟩) ss.length ss.length) ss :=
  ⟨by rw [svals_len]; omega, .inr ⟨g, ss.length, _, rfl, hb, h, Nat.le_refl _, hm, by simp [svals_len], by rw [List.take_of_length_le (by simp [svals_len])]⟩⟩
def markS : ByteArray := ⟨#[109, 97, 114, 107]⟩
theorem makeS (n : Nat) : madeCells #[Value.string ⟨#[]⟩] n = (svals (List.replicate n ⟨#[]⟩)).toArray := by
  apply Array.ext
  · rw [size_madeCells]; simp [svals]
  · intro k h1 h2
    simp [madeCells, svals, Nat.mod_one]
theorem make_row_str (n : Nat) (m : Int) (hm : m = (n : Int)) (h : n ≤ 8796093022208) : ∀ W, (Instr.makeSlice 25 (.int .i64 m) (.int .i64 m)).run Tryd.prog W = .ok (.slice (some ⟨W.heap.size, 0, none⟩) n n) (W.alloc (.cells (svals (List.replicate n ⟨#[]⟩)).toArray 9)) := by
  intro W
  subst hm
  rw [← makeS]
  exact run_make_row' 25 9 (.string ⟨#[]⟩) 16 Tryd.underlying25 infoS rfl .i64 .i64 n (by omega) (by omega) W
def marksS : List ByteArray := List.replicate 64 markS
theorem marksS_len : marksS.length = 64 := by simp [marksS]
/-- The first k are laid, the rest are zeros. -/
def laidS (zs : List ByteArray) (k : Nat) : List ByteArray := zs.take k ++ List.replicate (zs.length - k) ⟨#[]⟩
theorem laidS_len (zs : List ByteArray) (k : Nat) (h : k ≤ zs.length) : (laidS zs k).length = zs.length := by
  unfold laidS; rw [List.length_append, List.length_take, List.length_replicate]; omega
theorem laidS_zero (zs : List ByteArray) : laidS zs 0 = List.replicate zs.length ⟨#[]⟩ := by unfold laidS; simp
theorem laidS_all (zs : List ByteArray) : laidS zs zs.length = zs := by unfold laidS; simp
theorem laidS_succ (zs : List ByteArray) (k : Nat) (h : k < zs.length) : (laidS zs k).set k (zs.getD k ⟨#[]⟩) = laidS zs (k + 1) := by
  unfold laidS
  have hl : (zs.take k).length = k := by rw [List.length_take]; omega
  rw [List.set_append_right _ _ (by omega), hl, Nat.sub_self, show zs.length - k = (zs.length - (k + 1)) + 1 by omega, List.replicate_succ, List.set_cons_zero,
    List.take_succ_eq_append_getElem h, List.append_assoc, List.getD_eq_getElem?_getD, List.getElem?_eq_getElem h]
  rfl
theorem markedS_in (bs : List ByteArray) (k : Nat) (h : k < bs.length) : (bs ++ marksS).getD k ⟨#[]⟩ = bs.getD k ⟨#[]⟩ := by
  rw [List.getD_eq_getElem?_getD, List.getElem?_append_left h, List.getD_eq_getElem?_getD]
theorem markedS_out (bs : List ByteArray) (k : Nat) (h : bs.length ≤ k) (h2 : k < bs.length + 64) : (bs ++ marksS).getD k ⟨#[]⟩ = markS := by
  rw [List.getD_eq_getElem?_getD, List.getElem?_append_right h]
  unfold marksS
  rw [List.getElem?_replicate, if_pos (by omega)]
  rfl
/-- A letter more. -/
def addz (s : ByteArray) : ByteArray := s ++ ⟨#[122]⟩
def mixS (ss : List ByteArray) (k : Nat) : List ByteArray := (ss.map addz).take k ++ (ss ++ marksS).drop k
theorem mixS_zero (ss : List ByteArray) : mixS ss 0 = ss ++ marksS := by simp [mixS]
theorem mixS_end (ss : List ByteArray) : mixS ss ss.length = ss.map addz ++ marksS := by
  unfold mixS
  rw [List.take_of_length_le (by simp), List.drop_left]
theorem mixS_get (ss : List ByteArray) (k : Nat) (h : k < ss.length) : (mixS ss k).getD k ⟨#[]⟩ = ss.getD k ⟨#[]⟩ := by
  have hl : ((ss.map addz).take k).length = k := by rw [List.length_take, List.length_map]; omega
  rw [List.getD_eq_getElem?_getD, mixS, List.getElem?_append_right (by omega), hl, Nat.sub_self, List.getElem?_drop, Nat.add_zero, List.getElem?_append_left h, ← List.getD_eq_getElem?_getD]
theorem mixS_step (ss : List ByteArray) (k : Nat) (h : k < ss.length) : (mixS ss k).set k (addz (ss.getD k ⟨#[]⟩)) = mixS ss (k + 1) := by
  have hl : ((ss.map addz).take k).length = k := by rw [List.length_take, List.length_map]; omega
  have hp : k < (ss ++ marksS).length := by rw [List.length_append]; omega
  have hm : k < (ss.map addz).length := by rw [List.length_map]; exact h
  unfold mixS
  rw [List.set_append_right _ _ (by omega), hl, Nat.sub_self, List.take_succ_eq_append_getElem hm, List.drop_eq_getElem_cons hp, List.set_cons_zero, List.append_assoc]
  congr 2
  rw [List.getD_eq_getElem?_getD, List.getElem?_eq_getElem h, List.getElem_map]
  rfl
end Go.Proofs.YtmndjgmlndpgaaaDoor.Filt
