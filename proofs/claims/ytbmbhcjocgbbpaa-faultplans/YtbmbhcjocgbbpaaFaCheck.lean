/-
  Check: the places of entries as a map's keys.
-/
import Derived.Test.YtbmbhcjocgbbpaaFaKey
import Derived.Test.YtbmbhcjocgbbpaaFaMayC
import Derived.Laws.ResultCell
import Derived.Laws.Rows
namespace Go.Proofs.Ytbmbhcjocgbbpaa.Fa
open Go.ChangeShapes Go.WideShapes Go.ChangeAt Go.RowKit Go.Maps
open Go.Proofs.Ytbmbhcjocgbbpaa.Base
set_option linter.unusedVariables false
abbrev P4 := Int × Int × Int × Int
def plc (f : Flt) : P4 := (f.k, f.j, f.t, f.a)
def pv4 (x : P4) : Value := pval x.1 x.2.1 x.2.2.1 x.2.2.2
theorem pv4_inj {x y : P4} (h : pv4 x = pv4 y) : x = y := by
  obtain ⟨a, b, c, d⟩ := x
  obtain ⟨a', b', c', d'⟩ := y
  simp [pv4, pval] at h
  obtain ⟨rfl, rfl, rfl, rfl⟩ := h
  rfl
/-- What Check tells. -/
def chk (fs : List Flt) : Nat := if 256 < fs.length then 2 else if fs.all may = true ∧ (fs.map plc).Nodup then 0 else 160
structure Inv (D : DataW Unit) (ps : List P4) : Prop where
  tidy : Tidy D
  hasD : ∀ x l, keyOf Try.prog 71 (pv4 x) = some l → Maps.has D l = decide (x ∈ ps)
  le : Maps.size D ≤ ps.length
  nd : ps.Nodup → Maps.size D = ps.length
  dp : ¬ ps.Nodup → Maps.size D < ps.length
theorem inv_empty : Inv (.map []) [] := ⟨tidy_empty, fun _ _ _ => rfl, Nat.le_refl _, fun _ => rfl, fun h => absurd List.nodup_nil h⟩
theorem nodup_snoc {α : Type} (L : List α) (x : α) : (L ++ [x]).Nodup ↔ L.Nodup ∧ x ∉ L := by
  rw [List.nodup_append]
  constructor
  · rintro ⟨h1, _, h3⟩
    exact ⟨h1, fun h => h3 x h x (List.mem_singleton.2 rfl) rfl⟩
  · rintro ⟨h1, h2⟩
    refine ⟨h1, List.nodup_cons.2 ⟨List.not_mem_nil, List.nodup_nil⟩, fun a ha b hb e => ?_⟩
    obtain rfl := List.mem_singleton.1 hb
    subst e
    exact h2 ha
theorem Inv.step {D : DataW Unit} {ps : List P4} (h : Inv D ps) {x : P4} {l : Lit} (hk : keyOf Try.prog 71 (pv4 x) = some l) (d : DataW Unit) : Inv (D.put l d) (ps ++ [x]) := by
  have hl := law_place.key hk
  have hs := size_put (k := l) h.tidy d
  have hh := h.hasD x l hk
  have hle := h.le
  refine ⟨h.tidy.put hl d, fun y ly hy => ?_, ?_, ?_, ?_⟩
  · by_cases e : y = x
    · subst e
      have : ly = l := by rw [hk] at hy; exact (Option.some.inj hy).symm
      subst this
      rw [has_put_same h.tidy.isMap hl]
      simp
    · have hne : ly ≠ l := fun e2 => by
        subst e2
        exact e (pv4_inj (law_place.inj hy hk))
      rw [has_put_other hne, h.hasD y ly hy]
      simp [e]
  · rw [hs, List.length_append, List.length_singleton]
    split <;> omega
  · intro hn
    obtain ⟨h1, h2⟩ := (nodup_snoc ps x).1 hn
    rw [hs, hh, decide_eq_false h2, h.nd h1, List.length_append]
    rfl
  · intro hn
    rw [hs, List.length_append, List.length_singleton]
    by_cases h1 : ps.Nodup
    · have h2 : x ∈ ps := by
        by_cases h3 : x ∈ ps
        · exact h3
        · exact absurd ((nodup_snoc ps x).2 ⟨h1, h3⟩) hn
      rw [hh, decide_eq_true h2, if_pos rfl]
      omega
    · have := h.dp h1
      split <;> omega
/-- A place lies in the block g. -/
def PB (w : World) (g : Nat) (x : P4) : Prop := w.heap[g]? = some (.cells #[.int .i64 x.1, .int .i64 x.2.1, .int .i64 x.2.2.1, .int .i64 x.2.2.2] 71)
theorem pb_ret {fn : Func} {p : Tmp} (h : fn.results = #[.cell p 71]) (tmps : Array Value) (w : World) (g : Nat) (x : P4) (hp : tmps.getD p undef = .pointer (some ⟨g, 0, none⟩)) (hf : PB w g x) :
    (results fn tmps).run Try.prog w = .ok (pv4 x) w :=
  results_cell_row h tmps w g 71 _ (0, 0) _ hp hf Try.underlying71 rfl (by kernel_rfl)
theorem heap_new1 (w : World) (o1 o2 : Obj) : ((w.alloc o1).alloc o2).heap[w.heap.size + 1]? = some o2 := by
  have h := heap_alloc_new (w.alloc o1) o2
  rwa [show (w.alloc o1).heap.size = w.heap.size + 1 by simp] at h
set_option maxHeartbeats 1000000 in
set_option maxRecDepth 100000 in
theorem placeOf_any (f : Flt) (w : World) :
    Calls Try.prog 41 #[f.val] w fun e w' => e = .returned (pval f.k f.j f.t f.a) ∧ Below w.heap.size w w' := by
  obtain ⟨k, j, t, a, m, r, p, q⟩ := f
  unfold Flt.val
  simp only
  generalize (q.toNat : Int) = n
  go_enter Try.func41, Try.ntmps41
  go_wp2_with fail
  refine bodyPost_ret (v := pval k j t a) (pb_ret rfl _ _ (w.heap.size + 1) (k, j, t, a) rfl (heap_new1 _ _ _)) rfl ⟨rfl, ba (ba (b0 _) _) _⟩
end Go.Proofs.Ytbmbhcjocgbbpaa.Fa
