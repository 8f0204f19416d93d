/-
  A block of entries in memory, written entry by entry.
-/
import Derived.Test.YtbmbhcjocgbbpaaFaList
import Derived.Test.YtbmbhcjocgbbpaaFaBlk
import Derived.Laws.MakeOwn
namespace Go.Proofs.Ytbmbhcjocgbbpaa.Fa
open Go.ChangeShapes Go.WideShapes Go.ChangeAt Go.RowKit
open Go.Proofs.Ytbmbhcjocgbbpaa.Base
set_option linter.unusedVariables false
theorem lt_rowF {w : World} {g : Nat} {cur : Array Value} {t : TypeId} (h : w.heap[g]? = some (.cells cur t)) : g < w.heap.size := (Array.getElem?_eq_some_iff.1 h).1
/-- The first n entries of the block g. -/
def FA (w : World) (g n : Nat) (F : Nat → Flt) : Prop := ∃ (cur : Array Value) (t : TypeId), w.heap[g]? = some (.cells cur t) ∧ ∀ j, j < n → ∀ c, c < 8 → cur[j * 8 + c]? = (fv (F j))[c]?
def setF (F : Nat → Flt) (i : Nat) (f : Flt) : Nat → Flt := fun j => if j = i then f else F j
theorem FA.lt {w : World} {g n : Nat} {F : Nat → Flt} (h : FA w g n F) : g < w.heap.size := by
  obtain ⟨cur, t, h1, _⟩ := h
  exact lt_rowF h1
theorem FA.at8 {w : World} {g n : Nat} {F : Nat → Flt} (h : FA w g n F) (j : Nat) (hj : j < n) : At8 w g (j * 8) (F j) := by
  obtain ⟨cur, t, h1, h2⟩ := h
  refine At8.mk fun c u hu => ?_
  have hc : c < 8 := by
    have := (List.getElem?_eq_some_iff.1 hu).1
    rw [fv_len] at this; exact this
  rw [cell_of_row _ _ _ _ _ _ h1, h2 j hj c hc]; exact hu
theorem FA.frozen {w : World} {g n : Nat} {F : Nat → Flt} (h : FA w g n F) (k : Nat) : w.frozen? ⟨g, k, none⟩ = false := by
  obtain ⟨cur, t, h1, _⟩ := h
  exact frozen_of_row _ _ _ _ _ h1
theorem FA.congr {w : World} {g n : Nat} {F G : Nat → Flt} (h : FA w g n F) (e : ∀ j, j < n → F j = G j) : FA w g n G := by
  obtain ⟨cur, t, h1, h2⟩ := h
  exact ⟨cur, t, h1, fun j hj => by rw [← e j hj]; exact h2 j hj⟩
theorem FA.less {w : World} {g n m : Nat} {F : Nat → Flt} (h : FA w g n F) (e : m ≤ n) : FA w g m F := by
  obtain ⟨cur, t, h1, h2⟩ := h
  exact ⟨cur, t, h1, fun j hj => h2 j (by omega)⟩
theorem FA.same {w w' : World} {g n : Nat} {F : Nat → Flt} (h : FA w g n F) (e : w'.heap[g]? = w.heap[g]?) : FA w' g n F := by
  obtain ⟨cur, t, h1, h2⟩ := h
  exact ⟨cur, t, by rw [e]; exact h1, h2⟩
theorem FA.grown {w w' : World} {g n : Nat} {F : Nat → Flt} {q : Option Nat} (h : FA w g n F) (hg : w.grownBy w' q) (hq : q ≠ some g) : FA w' g n F :=
  h.same (hg.block g h.lt (fun e => hq e.symm))
theorem FA.below {w w' : World} {g n : Nat} {F : Nat → Flt} {b : Nat} (h : FA w g n F) (hg : Below b w w') (hq : g < b) : FA w' g n F :=
  h.same (hg.block g hq)
/-- The world in which the entry f stands at o of the block g. -/
def set8 (w : World) (g o : Nat) (f : Flt) : World := (((((((w.setCell ⟨g, o, none⟩ (.int .i64 f.k)).setCell ⟨g, o + 1, none⟩ (.int .i64 f.j)).setCell ⟨g, o + 2, none⟩ (.int .i64 f.t)).setCell ⟨g, o + 3, none⟩ (.int .i64 f.a)).setCell ⟨g, o + 4, none⟩ (.int .i64 f.m)).setCell ⟨g, o + 5, none⟩ (.int .i64 f.r)).setCell ⟨g, o + 6, none⟩ (.int .i64 f.p)).setCell ⟨g, o + 7, none⟩ (.int .u32 (f.q.toNat : Int))
def arr8 (cur : Array Value) (o : Nat) (f : Flt) : Array Value := (((((((cur.setIfInBounds o (.int .i64 f.k)).setIfInBounds (o + 1) (.int .i64 f.j)).setIfInBounds (o + 2) (.int .i64 f.t)).setIfInBounds (o + 3) (.int .i64 f.a)).setIfInBounds (o + 4) (.int .i64 f.m)).setIfInBounds (o + 5) (.int .i64 f.r)).setIfInBounds (o + 6) (.int .i64 f.p)).setIfInBounds (o + 7) (.int .u32 (f.q.toNat : Int))
theorem size_arr8 (cur : Array Value) (o : Nat) (f : Flt) : (arr8 cur o f).size = cur.size := by unfold arr8; simp
theorem heap_set8 {w : World} {g : Nat} {cur : Array Value} {t : TypeId} (h : w.heap[g]? = some (.cells cur t)) (o : Nat) (f : Flt) : (set8 w g o f).heap[g]? = some (.cells (arr8 cur o f) t) := by
  unfold set8 arr8
  exact heap_setCell_same _ _ _ _ _ _ (heap_setCell_same _ _ _ _ _ _ (heap_setCell_same _ _ _ _ _ _ (heap_setCell_same _ _ _ _ _ _ (heap_setCell_same _ _ _ _ _ _ (heap_setCell_same _ _ _ _ _ _ (heap_setCell_same _ _ _ _ _ _ (heap_setCell_same _ _ _ _ _ _ h)))))))
theorem arr8_at (cur : Array Value) (o : Nat) (f : Flt) (c : Nat) (hc : c < 8) (ho : o + 7 < cur.size) : (arr8 cur o f)[o + c]? = (fv f)[c]? := by
  unfold arr8
  simp only [Array.getElem?_setIfInBounds, Array.size_setIfInBounds]
  match c, hc with
  | 0, _ => rw [if_neg (by omega), if_neg (by omega), if_neg (by omega), if_neg (by omega), if_neg (by omega), if_neg (by omega), if_neg (by omega), if_pos (by omega), if_pos (by omega)]; rfl
  | 1, _ => rw [if_neg (by omega), if_neg (by omega), if_neg (by omega), if_neg (by omega), if_neg (by omega), if_neg (by omega), if_pos (by omega), if_pos (by omega)]; rfl
  | 2, _ => rw [if_neg (by omega), if_neg (by omega), if_neg (by omega), if_neg (by omega), if_neg (by omega), if_pos (by omega), if_pos (by omega)]; rfl
  | 3, _ => rw [if_neg (by omega), if_neg (by omega), if_neg (by omega), if_neg (by omega), if_pos (by omega), if_pos (by omega)]; rfl
  | 4, _ => rw [if_neg (by omega), if_neg (by omega), if_neg (by omega), if_pos (by omega), if_pos (by omega)]; rfl
  | 5, _ => rw [if_neg (by omega), if_neg (by omega), if_pos (by omega), if_pos (by omega)]; rfl
  | 6, _ => rw [if_neg (by omega), if_pos (by omega), if_pos (by omega)]; rfl
  | 7, _ => rw [if_pos (by omega), if_pos (by omega)]; rfl
  | c + 8, h => omega
theorem arr8_far (cur : Array Value) (o : Nat) (f : Flt) (x : Nat) (h : x < o ∨ o + 7 < x) : (arr8 cur o f)[x]? = cur[x]? := by
  unfold arr8
  simp only [Array.getElem?_setIfInBounds, Array.size_setIfInBounds]
  rw [if_neg (by omega), if_neg (by omega), if_neg (by omega), if_neg (by omega), if_neg (by omega), if_neg (by omega), if_neg (by omega), if_neg (by omega)]
/-- An entry is written. -/
theorem FA.set {w : World} {g n : Nat} {F : Nat → Flt} (h : FA w g n F) (i : Nat) (hi : i < n) (f : Flt) : FA (set8 w g (i * 8) f) g n (setF F i f) := by
  obtain ⟨cur, t, h1, h2⟩ := h
  have hs : i * 8 + 7 < cur.size := by
    have h7 := h2 i hi 7 (by omega)
    by_cases q : i * 8 + 7 < cur.size
    · exact q
    · rw [Array.getElem?_eq_none (by omega)] at h7; cases h7
  refine ⟨arr8 cur (i * 8) f, t, heap_set8 h1 _ _, fun j hj c hc => ?_⟩
  unfold setF
  by_cases e : j = i
  · subst e
    rw [if_pos rfl]
    exact arr8_at _ _ _ _ hc hs
  · rw [if_neg e, arr8_far _ _ _ _ (by omega)]
    exact h2 j hj c hc
theorem grown_set8 {w0 w : World} {g : Nat} (h : w0.grownBy w (some g)) (o : Nat) (f : Flt) : w0.grownBy (set8 w g o f) (some g) := by
  unfold set8
  exact grown_cell (grown_cell (grown_cell (grown_cell (grown_cell (grown_cell (grown_cell (grown_cell h _ _) _ _) _ _) _ _) _ _) _ _) _ _) _ _
theorem below_set8 {w0 w : World} {b g : Nat} (h : Below b w0 w) (hg : b ≤ g) (o : Nat) (f : Flt) : Below b w0 (set8 w g o f) := by
  unfold set8
  exact (((((((h.setCell hg _).setCell hg _).setCell hg _).setCell hg _).setCell hg _).setCell hg _).setCell hg _).setCell hg _
/-- The entries from a to b. -/
def segF (F : Nat → Flt) (n : Nat) : List Flt := (List.range n).map F
theorem length_segF (F : Nat → Flt) (n : Nat) : (segF F n).length = n := by unfold segF; simp
theorem segF_get (F : Nat → Flt) (n j : Nat) (h : j < n) : (segF F n)[j]? = some (F j) := by
  unfold segF; rw [List.getElem?_map, List.getElem?_range h]; rfl
theorem segF_getD (F : Nat → Flt) (n j : Nat) (h : j < n) : (segF F n).getD j f0 = F j := by
  rw [List.getD_eq_getElem?_getD, segF_get F n j h]; rfl
theorem segF_list (fs : List Flt) : segF (fun j => fs.getD j f0) fs.length = fs := by
  apply List.ext_getElem?
  intro j
  by_cases h : j < fs.length
  · rw [segF_get _ _ _ h, List.getD_eq_getElem?_getD, List.getElem?_eq_getElem h]; rfl
  · rw [List.getElem?_eq_none (by rw [length_segF]; omega), List.getElem?_eq_none (by omega)]
theorem segF_congr (F G : Nat → Flt) (n : Nat) (h : ∀ j, j < n → F j = G j) : segF F n = segF G n := by
  unfold segF
  apply List.map_congr_left
  intro j hj
  exact h _ (List.mem_range.1 hj)
theorem own_fa {w : World} {base g n cap : Nat} {fs : List Flt} (h : OwnL w base (.slice (some ⟨g, 0, none⟩) n cap) fs) : FA w g n (fun j => fs.getD j f0) ∧ base ≤ g ∧ n = fs.length := by
  rcases h.2 with ⟨h1, h2⟩ | ⟨g', cap', cur, h1, h2, h3, h4, h5, h6, h7⟩
  · cases h1
  · simp only [Value.slice.injEq, Option.some.injEq, Addr.mk.injEq] at h1
    obtain ⟨⟨rfl, _⟩, rfl, rfl⟩ := h1
    refine ⟨⟨cur, _, h3, fun j hj c hc => ?_⟩, h2, rfl⟩
    have a := fvals_get fs j c hj hc
    rw [← h7] at a
    rw [List.getElem?_take_of_lt (by omega), Array.getElem?_toList] at a
    exact a
theorem fa_own {w : World} {base g n cap : Nat} {F : Nat → Flt} {cur0 : Array Value} (h : FA w g n F) (hg : w.heap[g]? = some (.cells cur0 25)) (hs : cur0.size = cap * 8) (hn : n ≤ cap) (hc : cap ≤ maxLen) (hb : base ≤ g) : OwnL w base (.slice (some ⟨g, 0, none⟩) n cap) (segF F n) := by
  obtain ⟨cur, t, h1, h2⟩ := h
  rw [h1] at hg
  have hg' := Option.some.inj hg
  simp only [Obj.cells.injEq] at hg'
  obtain ⟨rfl, rfl, _⟩ := hg'
  have hl : (segF F n).length = n := length_segF _ _
  refine ⟨length_fvals _, .inr ⟨g, cap, cur, by rw [hl], hb, h1, by rw [hl]; exact hn, hc, hs, ?_⟩⟩
  rw [hl]
  apply List.ext_getElem?
  intro i
  by_cases hi : i < n * 8
  · rw [List.getElem?_take_of_lt hi, Array.getElem?_toList]
    have hj : i / 8 < n := by omega
    have a := fvals_get (segF F n) (i / 8) (i % 8) (by rw [hl]; exact hj) (by omega)
    have b := h2 (i / 8) hj (i % 8) (by omega)
    rw [segF_getD _ _ _ hj] at a
    rw [show i = i / 8 * 8 + i % 8 by omega, b, ← a]
  · rw [List.getElem?_eq_none (by rw [List.length_take]; omega), List.getElem?_eq_none (by rw [length_fvals, hl]; omega)]
/-- A new list of entries that are zero. -/
theorem make_flt (n : Nat) (h : n ≤ 2199023255552) : ∃ M : Array Value, M.size = n * 8 ∧ (∀ j, j < n → ∀ c, c < 8 → M[j * 8 + c]? = (fv f0)[c]?) ∧
    ∀ (m : Int), m = (n : Int) → ∀ W, (Instr.makeSlice 32 (.int .i64 m) (.int .i64 m)).run Try.prog W = .ok (.slice (some ⟨W.heap.size, 0, none⟩) n n) (W.alloc (.cells M 25)) := by
  have hq := infoL
  cases hi : Try.prog.info? 25 with
  | none => simp [hi] at hq
  | some i =>
    simp only [hi, Option.map_some, Option.some.injEq, Prod.mk.injEq] at hq
    obtain ⟨h1, h2, h3⟩ := hq
    refine ⟨madeCells #[.int .i64 0, .int .i64 0, .int .i64 0, .int .i64 0, .int .i64 0, .int .i64 0, .int .i64 0, .int .u32 0] (n * 8), size_madeCells _ _, fun j hj c hc => ?_, fun m hm W => ?_⟩
    · have e : ∀ k, k < n * 8 → (madeCells #[Value.int .i64 0, .int .i64 0, .int .i64 0, .int .i64 0, .int .i64 0, .int .i64 0, .int .i64 0, .int .u32 0] (n * 8))[k]? = some ((#[Value.int .i64 0, .int .i64 0, .int .i64 0, .int .i64 0, .int .i64 0, .int .i64 0, .int .i64 0, .int .u32 0] : Array Value)[k % 8]!) := fun k hk => by
        unfold madeCells
        rw [Array.getElem?_map, Array.getElem?_range, if_pos hk]
        rfl
      rw [e _ (by omega), show (j * 8 + c) % 8 = c by omega]
      match c, hc with
      | 0, _ => rfl
      | 1, _ => rfl
      | 2, _ => rfl
      | 3, _ => rfl
      | 4, _ => rfl
      | 5, _ => rfl
      | 6, _ => rfl
      | 7, _ => rfl
      | c + 8, h => omega
    · subst hm
      have := run_make (P := Try.prog) W 32 25 i _ Try.underlying32 hi h1 .i64 .i64 (n : Int) (n : Int) (by omega) (by omega) (by rw [h3]; omega) (by omega)
      rw [h2, Int.toNat_natCast] at this
      exact this
theorem fa_new {W : World} {M : Array Value} {n : Nat} (h : ∀ j, j < n → ∀ c, c < 8 → M[j * 8 + c]? = (fv f0)[c]?) : FA (W.alloc (.cells M 25)) W.heap.size n (fun _ => f0) :=
  ⟨M, _, heap_alloc_new _ _, fun j hj => h j hj⟩
/-- The block keeps its type and its size. -/
def Shp8 (w : World) (g N : Nat) : Prop := ∃ cur : Array Value, w.heap[g]? = some (.cells cur 25) ∧ cur.size = N
theorem Shp8.set {w : World} {g N : Nat} (h : Shp8 w g N) (o : Nat) (f : Flt) : Shp8 (set8 w g o f) g N := by
  obtain ⟨cur, h1, h2⟩ := h
  exact ⟨arr8 cur o f, heap_set8 h1 o f, by rw [size_arr8]; exact h2⟩
theorem Shp8.grown {w w' : World} {g N : Nat} {q : Option Nat} (h : Shp8 w g N) (hg : w.grownBy w' q) (hq : q ≠ some g) : Shp8 w' g N := by
  obtain ⟨cur, h1, h2⟩ := h
  exact ⟨cur, (hg.block g (lt_rowF h1) (fun e => hq e.symm)).trans h1, h2⟩
end Go.Proofs.Ytbmbhcjocgbbpaa.Fa
