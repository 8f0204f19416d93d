/-
  Lists of records: as they are read, and as the call's own.
-/
import Derived.Test.YtlbplicafcoifaaSoRow
import Derived.Test.YtlbplicafcoifaaSoOpen
import Derived.Laws.MakeOwn
namespace Go.Proofs.Ytlbplicafcoifaa.So
open Go.ChangeShapes Go.WideShapes Go.ChangeAt Go.RowKit
open Go.Proofs.Ytlbplicafcoifaa.Base
set_option linter.unusedVariables false
def rv (r : Rec) : List Value := [.int .i64 r.p, .string r.k, .string r.v]
def rvals (rs : List Rec) : List Value := rs.flatMap rv
theorem rvals_cons (r : Rec) (rs : List Rec) : rvals (r :: rs) = rv r ++ rvals rs := by unfold rvals; rw [List.flatMap_cons]
theorem rvals_append (a b : List Rec) : rvals (a ++ b) = rvals a ++ rvals b := by unfold rvals; rw [List.flatMap_append]
theorem length_rvals (rs : List Rec) : (rvals rs).length = rs.length * 3 := by
  induction rs with
  | nil => rfl
  | cons r rs ih => rw [rvals_cons, List.length_append, ih, List.length_cons]; simp [rv]; omega
theorem rvals_get : ∀ (rs : List Rec) (j : Nat), j < rs.length → (rvals rs)[j * 3]? = some (.int .i64 (rs.getD j rec0).p) ∧ (rvals rs)[j * 3 + 1]? = some (.string (rs.getD j rec0).k) ∧ (rvals rs)[j * 3 + 2]? = some (.string (rs.getD j rec0).v)
  | [], j, h => by simp at h
  | r :: rs, 0, _ => by rw [rvals_cons]; exact ⟨rfl, rfl, rfl⟩
  | r :: rs, j + 1, h => by
    have ih := rvals_get rs j (by simpa using h)
    have e : ∀ c, (rvals (r :: rs))[(j + 1) * 3 + c]? = (rvals rs)[j * 3 + c]? := fun c => by
      rw [rvals_cons, List.getElem?_append_right (by simp [rv]; omega)]
      congr 1
      simp [rv]; omega
    have e0 := e 0
    rw [Nat.add_zero, Nat.add_zero] at e0
    rw [e0, e 1, e 2]
    simpa using ih
/-- The slice leads to a row of records of the call's own, from the block base on. -/
def OwnR (w : World) (base : Nat) (v : Value) (rs : List Rec) : Prop := w.ownsRow base 34 3 v rs.length (rvals rs)
/-- The slice reads as records. -/
def RdR (w : World) (a : Option Addr) (len : Nat) (rs : List Rec) : Prop :=
  rs.length = len ∧ (0 < len → ∃ b off, a = some ⟨b, off, none⟩ ∧ b < w.heap.size ∧ ∀ j, j < len → w.cell? ⟨b, off + j * 3, none⟩ = some (.int .i64 (rs.getD j rec0).p) ∧ w.cell? ⟨b, off + j * 3 + 1, none⟩ = some (.string (rs.getD j rec0).k) ∧ w.cell? ⟨b, off + j * 3 + 2, none⟩ = some (.string (rs.getD j rec0).v))
theorem RdR.below {w w' : World} {a : Option Addr} {len : Nat} {rs : List Rec} (h : RdR w a len rs) (hb : Below w.heap.size w w') : RdR w' a len rs := by
  refine ⟨h.1, fun hp => ?_⟩
  obtain ⟨b, off, rfl, hl, hc⟩ := h.2 hp
  exact ⟨b, off, rfl, Nat.lt_of_lt_of_le hl hb.size, fun j hj => ⟨(hb.cell (p := ⟨b, off + j * 3, none⟩) hl).trans (hc j hj).1, (hb.cell (p := ⟨b, off + j * 3 + 1, none⟩) hl).trans (hc j hj).2.1, (hb.cell (p := ⟨b, off + j * 3 + 2, none⟩) hl).trans (hc j hj).2.2⟩⟩
theorem seg_list (rs : List Rec) : seg (fun j => rs.getD j rec0) 0 rs.length = rs := by
  apply List.ext_getElem?
  intro j
  by_cases h : j < rs.length
  · rw [seg_get _ _ _ _ (by omega), Nat.zero_add, List.getD_eq_getElem?_getD, List.getElem?_eq_getElem h]; rfl
  · rw [List.getElem?_eq_none (by rw [length_seg]; omega), List.getElem?_eq_none (by omega)]
theorem own_shape {w : World} {base : Nat} {v : Value} {rs : List Rec} (h : OwnR w base v rs) : ∃ a c, v = .slice a rs.length c ∧ rs.length ≤ c := by
  rcases h.2 with ⟨h1, h2⟩ | ⟨g, cap, cur, h1, _, _, h2, _⟩
  · exact ⟨none, 0, by rw [h1, h2], by omega⟩
  · exact ⟨_, _, h1, h2⟩
theorem own_ra {w : World} {base g n cap : Nat} {rs : List Rec} (h : OwnR w base (.slice (some ⟨g, 0, none⟩) n cap) rs) : RA w g n (fun j => rs.getD j rec0) ∧ base ≤ g ∧ n = rs.length := by
  rcases h.2 with ⟨h1, h2⟩ | ⟨g', cap', cur, h1, h2, h3, h4, h5, h6, h7⟩
  · cases h1
  · simp only [Value.slice.injEq, Option.some.injEq, Addr.mk.injEq] at h1
    obtain ⟨⟨rfl, _⟩, rfl, rfl⟩ := h1
    refine ⟨⟨cur, _, h3, fun j hj => ?_⟩, h2, rfl⟩
    obtain ⟨a, b, c⟩ := rvals_get rs j hj
    rw [← h7] at a b c
    rw [List.getElem?_take_of_lt (by omega), Array.getElem?_toList] at a b c
    exact ⟨a, b, c⟩
theorem own_rdr {w : World} {base : Nat} {a : Option Addr} {n cap : Nat} {rs : List Rec} (h : OwnR w base (.slice a n cap) rs) : RdR w a n rs := by
  rcases h.2 with ⟨h1, h2⟩ | ⟨g', cap', cur, h1, h2, h3, h4, h5, h6, h7⟩
  · simp only [Value.slice.injEq] at h1
    obtain ⟨rfl, rfl, rfl⟩ := h1
    exact ⟨h2, fun h => by omega⟩
  · simp only [Value.slice.injEq] at h1
    obtain ⟨rfl, rfl, rfl⟩ := h1
    obtain ⟨hr, _, _⟩ := own_ra h
    refine ⟨rfl, fun _ => ⟨g', 0, rfl, hr.lt, fun j hj => ?_⟩⟩
    obtain ⟨x, y, z⟩ := hr.cells j hj
    rw [Nat.zero_add]
    exact ⟨x, y, z⟩
theorem ra_own {w : World} {base g n cap : Nat} {F : Nat → Rec} {cur0 : Array Value} (h : RA w g n F) (hg : w.heap[g]? = some (.cells cur0 34)) (hs : cur0.size = cap * 3) (hn : n ≤ cap) (hc : cap ≤ maxLen) (hb : base ≤ g) : OwnR w base (.slice (some ⟨g, 0, none⟩) n cap) (seg F 0 n) := by
  obtain ⟨cur, t, h1, h2⟩ := h
  rw [h1] at hg
  have hg' := Option.some.inj hg
  simp only [Obj.cells.injEq] at hg'
  obtain ⟨rfl, rfl, _⟩ := hg'
  have hl : (seg F 0 n).length = n := by rw [length_seg]; omega
  refine ⟨length_rvals _, .inr ⟨g, cap, cur, by rw [hl], hb, h1, by rw [hl]; exact hn, hc, hs, ?_⟩⟩
  rw [hl]
  apply List.ext_getElem?
  intro i
  by_cases hi : i < n * 3
  · rw [List.getElem?_take_of_lt hi, Array.getElem?_toList]
    have hj : i / 3 < n := by omega
    obtain ⟨a, b, c⟩ := rvals_get (seg F 0 n) (i / 3) (by rw [hl]; exact hj)
    obtain ⟨a', b', c'⟩ := h2 (i / 3) hj
    have e : (seg F 0 n).getD (i / 3) rec0 = F (i / 3) := by rw [List.getD_eq_getElem?_getD, seg_get _ _ _ _ (by omega), Nat.zero_add]; rfl
    rw [e] at a b c
    have h3 : i = i / 3 * 3 ∨ i = i / 3 * 3 + 1 ∨ i = i / 3 * 3 + 2 := by omega
    rcases h3 with h3 | h3 | h3
    · rw [h3, a', ← a]
    · rw [h3, b', ← b]
    · rw [h3, c', ← c]
  · rw [List.getElem?_eq_none (by rw [List.length_take]; omega), List.getElem?_eq_none (by rw [length_rvals, hl]; omega)]
theorem OwnR.same {w w' : World} {base : Nat} {v : Value} {rs : List Rec} (h : OwnR w base v rs) (hb : ∀ i, v.ownBlock = some i → w'.heap[i]? = w.heap[i]?) : OwnR w' base v rs := by
  obtain ⟨h1, h2⟩ := h
  refine ⟨h1, ?_⟩
  rcases h2 with h2 | ⟨g, cap, cur, e1, e2, e3, e4⟩
  · exact .inl h2
  · subst e1
    exact .inr ⟨g, cap, cur, rfl, e2, by rw [hb g rfl]; exact e3, e4⟩
theorem OwnR.blk {w : World} {base : Nat} {v : Value} {rs : List Rec} (h : OwnR w base v rs) : ∀ i, v.ownBlock = some i → base ≤ i ∧ i < w.heap.size := by
  intro i hi
  rcases h.2 with ⟨h1, _⟩ | ⟨g, cap, cur, e1, e2, e3, _⟩
  · subst h1; cases hi
  · subst e1
    have := Option.some.inj hi
    simp only at this
    subst this
    exact ⟨e2, lt_row e3⟩
theorem OwnR.below {w w' : World} {base : Nat} {v : Value} {rs : List Rec} (h : OwnR w base v rs) (hb : Below w.heap.size w w') : OwnR w' base v rs :=
  h.same (fun i hi => hb.block i (h.blk i hi).2)
theorem OwnR.base {w : World} {b b' : Nat} {v : Value} {rs : List Rec} (h : OwnR w b v rs) (hb : b' ≤ b) : OwnR w b' v rs := by
  obtain ⟨h1, h2⟩ := h
  refine ⟨h1, ?_⟩
  rcases h2 with h2 | ⟨g, cap, cur, e1, e2, e3⟩
  · exact .inl h2
  · exact .inr ⟨g, cap, cur, e1, by omega, e3⟩
theorem infoR : (Try.prog.info? 34).map (fun i => (i.zero, i.size, i.bytes)) = some (some (.agg #[.int .i64 0, .string ⟨#[]⟩, .string ⟨#[]⟩]), 3, 40) := by kernel_rfl
/-- A new list of records that are zero. -/
theorem make_rec (n : Nat) (h : n ≤ 3518437208883) : ∃ M : Array Value, M.size = n * 3 ∧ (∀ j, j < n → M[j * 3]? = some (.int .i64 0) ∧ M[j * 3 + 1]? = some (.string ⟨#[]⟩) ∧ M[j * 3 + 2]? = some (.string ⟨#[]⟩)) ∧
    ∀ (m : Int), m = (n : Int) → ∀ W, (Instr.makeSlice 38 (.int .i64 m) (.int .i64 m)).run Try.prog W = .ok (.slice (some ⟨W.heap.size, 0, none⟩) n n) (W.alloc (.cells M 34)) := by
  have hq := infoR
  cases hi : Try.prog.info? 34 with
  | none => simp [hi] at hq
  | some i =>
    simp only [hi, Option.map_some, Option.some.injEq, Prod.mk.injEq] at hq
    obtain ⟨h1, h2, h3⟩ := hq
    refine ⟨madeCells #[.int .i64 0, .string ⟨#[]⟩, .string ⟨#[]⟩] (n * 3), size_madeCells _ _, fun j hj => ?_, fun m hm W => ?_⟩
    · have e : ∀ k, k < n * 3 → (madeCells #[Value.int .i64 0, .string ⟨#[]⟩, .string ⟨#[]⟩] (n * 3))[k]? = some ((#[Value.int .i64 0, .string ⟨#[]⟩, .string ⟨#[]⟩] : Array Value)[k % 3]!) := fun k hk => by
        unfold madeCells
        rw [Array.getElem?_map, Array.getElem?_range, if_pos hk]
        rfl
      refine ⟨?_, ?_, ?_⟩
      · rw [e _ (by omega), show j * 3 % 3 = 0 by omega]; rfl
      · rw [e _ (by omega), show (j * 3 + 1) % 3 = 1 by omega]; rfl
      · rw [e _ (by omega), show (j * 3 + 2) % 3 = 2 by omega]; rfl
    · subst hm
      have := run_make (P := Try.prog) W 38 34 i _ Try.underlying38 hi h1 .i64 .i64 (n : Int) (n : Int) (by omega) (by omega) (by rw [h3]; omega) (by omega)
      rw [h2, Int.toNat_natCast] at this
      exact this
theorem ra_new {W : World} {M : Array Value} {n : Nat} (h : ∀ j, j < n → M[j * 3]? = some (.int .i64 0) ∧ M[j * 3 + 1]? = some (.string ⟨#[]⟩) ∧ M[j * 3 + 2]? = some (.string ⟨#[]⟩)) : RA (W.alloc (.cells M 34)) W.heap.size n (fun _ => rec0) :=
  ⟨M, _, heap_alloc_new _ _, fun j hj => h j hj⟩
end Go.Proofs.Ytlbplicafcoifaa.So
