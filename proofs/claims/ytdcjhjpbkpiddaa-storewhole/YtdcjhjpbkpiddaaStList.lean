/-
  List of the four blobs: their infos in the order of their names, whatever order the map was ranged over in.
-/
import Derived.Test.YtdcjhjpbkpiddaaStSort
import Derived.Shelf.Strings.Prefix
import Derived.Maps.RangeWalk
import Derived.Sort.KeysCollected
namespace Go.Proofs.Ytdcjhjpbkpiddaa.St
open Go.Shelf Go.ChangeShapes Go.WideShapes Go.ChangeAt Go.RowKit Go.MuLone Go.Sort
open Go.Proofs.Ytdcjhjpbkpiddaa.Base
set_option linter.unusedVariables false
def preRen : Ren := ⟨fun | 99 => 30 | 206 => 41 | n => n, fun | 3 => 3 | 4 => 4 | 9 => 9 | n => n, fun n => n⟩
theorem preLays : Lays.n99 Try.prog preRen where
  mixed := by kernel_rfl
  f99 := Try.func30.trans (congrArg some (by kernel_rfl))
  f206 := Try.func41.trans (congrArg some (by kernel_rfl))
  t3 := Try.underlying3
  a3 := Try.isAgg3
  z3 := Try.sizeOf3
  v3 := Try.zeroValue3
  t4 := Try.underlying4
  a4 := Try.isAgg4
  z4 := Try.sizeOf4
  v4 := Try.zeroValue4
  t9 := Try.underlying9
  a9 := Try.isAgg9
  z9 := Try.sizeOf9
  v9 := Try.zeroValue9
/-- What all four names begin with. -/
def BP : ByteArray := ⟨#[98, 108, 111, 98, 45]⟩
theorem bp_pre : ∀ k : Fin 4, Lib.hasPrefix (nameOf k.val).data.toList BP.data.toList = true := by decide
theorem hasPrefix_any (k : Nat) (hk : k < 4) (w : World) : Calls Try.prog 30 #[.string (nameOf k), .string BP] w fun e w' => e = .returned (.bool true) ∧ w' = w := by
  have h := Any.strings_HasPrefix preLays (nameOf k) BP w
  rw [bp_pre ⟨k, hk⟩] at h
  exact h
/-- Which of the four have come. -/
structure Col (D : DataW Unit) (left : Lit → Bool) (ds : List (Fin 4)) : Prop where
  nd : ds.Nodup
  mem : ∀ k : Fin 4, k ∈ ds ↔ left (key (nameOf k.val)) = false
  le : ∀ kl, left kl = true → Maps.has D kl = true
theorem Col.start {D : DataW Unit} (h : ∀ k : Fin 4, Maps.has D (key (nameOf k.val)) = true) : Col D (Maps.has D) [] := ⟨List.nodup_nil, fun k => by simp [h k], fun _ h => h⟩
theorem Col.step {D : DataW Unit} {left : Lit → Bool} {ds : List (Fin 4)} (h : Col D left ds) (k : Fin 4) (hk : left (key (nameOf k.val)) = true) : Col D (fun z => left z && !z.sameKey (key (nameOf k.val))) (ds ++ [k]) := by
  have hn : k ∉ ds := fun hx => by have := (h.mem k).1 hx; rw [hk] at this; cases this
  refine ⟨List.nodup_append.2 ⟨h.nd, by simp, fun a ha b hb => by simp at hb; subst hb; exact fun e => hn (e ▸ ha)⟩, fun j => ?_, fun kl hl => h.le kl (by simp at hl; exact hl.1)⟩
  by_cases hj : j = k
  · subst hj
    have : (key (nameOf j.val)).sameKey (key (nameOf j.val)) = true := WideAt.sameKey_self (show WideAt.IsKeyLit (key (nameOf j.val)) from trivial)
    simp [this]
  · have hne : key (nameOf j.val) ≠ key (nameOf k.val) := key_ne j.val k.val j.isLt k.isLt (fun e => hj (Fin.ext e))
    have := Maps.sameKey_ne hne
    simp [this, hj, h.mem j]
theorem Col.done {D : DataW Unit} {left : Lit → Bool} {ds : List (Fin 4)} (h : Col D left ds) (hl : ∀ kl, left kl = false) : ds.Perm four4.toList := by
  refine (List.perm_ext_iff_of_nodup h.nd (by decide)).2 fun k => ?_
  have h1 : k ∈ ds := (h.mem k).2 (hl _)
  have h2 : ∀ k : Fin 4, k ∈ four4.toList := by decide
  exact ⟨fun _ => h2 k, fun _ => h1⟩
theorem pr_shape (v : Value) (y : DataW Unit × List MemPlace) (h : PR v = some y) : ∃ c : Option Addr, v = .pointer c := by
  unfold PR at h
  split at h
  · exact ⟨_, rfl⟩
  · exact ⟨_, rfl⟩
  · cases h
/-- The infos of those that have come, cell by cell. -/
def flatI (st sz : Fin 4 → Int) (ds : List (Fin 4)) : List Value := ds.flatMap (encI st sz)
theorem flatI_push (st sz : Fin 4 → Int) (ds : List (Fin 4)) (k : Fin 4) : flatI st sz ds ++ [.string (nameOf k.val), .int .i64 (st k), .int .i64 (sz k)] = flatI st sz (ds ++ [k]) := by
  unfold flatI
  rw [List.flatMap_append]
  rfl
theorem infoI : (Try.prog.info? 45).map (fun i => (i.zero, i.size, i.bytes)) = some (some (.agg #[.string ⟨#[]⟩, .int .i64 0, .int .i64 0]), 3, 32) := by kernel_rfl
/-- append of one info. -/
theorem pushI {ops : Array Oper} {rest : List Oper} {o : Oper} {a : Act} {Q : Exit → Act → World → Prop} (w : World) (hgd : o.guard = none) (s x : Operand)
    (ho : o.op = .call { callee := .builtin .append, args := #[s, x], argTypes := #[42, 42] })
    (base : Nat) (v : Value) (n : Nat) (xs : List Value) (hs : a.eval s = v) (hown : w.ownsRow base 45 3 v n xs) (ad : Addr) (cap : Nat) (u0 u1 u2 : Value) (hx : a.eval x = .slice (some ad) 1 cap)
    (hc0 : w.cell? (ad.add 0) = some u0) (hc1 : w.cell? (ad.add 1) = some u1) (hc2 : w.cell? (ad.add 2) = some u2) (h0 : u0.oneCell' = true) (h1 : u1.oneCell' = true) (h2 : u2.oneCell' = true) (hl : n + 1 ≤ 137438953472) (hbase : base ≤ w.heap.size)
    (h : ∀ v' w', w'.ownsRow base 45 3 v' (n + 1) (xs ++ [u0, u1, u2]) → w.grownBy w' v.ownBlock → wpList Try.prog ops Q rest (a.put o.dst v') w') : wpList Try.prog ops Q (o :: rest) a w := by
  obtain ⟨i0, hi, hz0, hz1, hz2⟩ := info_parts infoI
  refine wpList_append_own w hgd s x 42 ho base 45 i0 (.agg #[.string ⟨#[]⟩, .int .i64 0, .int .i64 0]) 3 32 Try.underlying42 hi hz0 hz1 hz2 rfl (by omega) v n xs hs hown ad 1 cap [u0, u1, u2] hx rfl ?_ ?_ (by unfold maxLen; omega) (by omega) hbase ?_
  · intro j u hu
    match j with
    | 0 => simp at hu; subst hu; exact hc0
    | 1 => simp at hu; subst hu; exact hc1
    | 2 => simp at hu; subst hu; exact hc2
    | j + 3 => simp at hu
  · intro u hu
    simp at hu
    rcases hu with rfl | rfl | rfl
    · exact h0
    · exact h1
    · exact h2
  · intro v' w' k1 k2 _
    exact h v' w' k1 k2
/-- The list of four holds what has come. -/
theorem holds_of_row {w : World} {base g c : Nat} {st sz : Fin 4 → Int} {ds : List (Fin 4)} (h : w.ownsRow base 45 3 (.slice (some ⟨g, 0, none⟩) 4 c) 4 (flatI st sz ds)) (hd : ds.length = 4) : HoldsK (encI st sz) 3 w g 0 ds.toArray ∧ g < w.heap.size ∧ base ≤ g := by
  match ds, hd with
  | [a, b, c', e], _ =>
    have hg : g < w.heap.size ∧ base ≤ g ∧ (∀ j, w.frozen? ⟨g, j, none⟩ = false) := by
      rcases h.2 with ⟨h1, _⟩ | ⟨g', cap', cur, h1, hb, hh, _⟩
      · cases h1
      · simp only [Value.slice.injEq, Option.some.injEq, Addr.mk.injEq] at h1
        obtain ⟨⟨rfl, _⟩, _⟩ := h1
        refine ⟨?_, hb, fun j => frozen_of_row _ _ _ _ _ hh⟩
        by_cases hx : g < w.heap.size
        · exact hx
        · rw [Array.getElem?_eq_none (by omega)] at hh; cases hh
    refine ⟨fun j hj => ⟨?_, hg.2.2 _⟩, hg.1, hg.2.1⟩
    have hj' : j < 12 := by rw [size_flatK] at hj; exact hj
    rw [Nat.zero_add, World.ownsRow.cellAt h j (by omega), get_flatK _ _ _ j (show j < 4 * 3 by omega)]
    clear hj
    match j, hj' with
    | 0, _ => rfl
    | 1, _ => rfl
    | 2, _ => rfl
    | 3, _ => rfl
    | 4, _ => rfl
    | 5, _ => rfl
    | 6, _ => rfl
    | 7, _ => rfl
    | 8, _ => rfl
    | 9, _ => rfl
    | 10, _ => rfl
    | 11, _ => rfl
/-- What the sort leaves. -/
theorem sort_left {st sz : Fin 4 → Int} {w w' : World} {g n : Nat} {os : Array Obj} {d : Array (Fin 4)} (hH : HoldsK (encI st sz) 3 w g 0 d) (hg : g < w.heap.size) (hd : d.size = 4) (hw : w' = sortWorldK (encI st sz) 3 w g 0 n four4 os) :
    w.grownBy w' (some g) ∧ ∀ k : Fin 4, w'.cell? ⟨g, k.val * 3, none⟩ = some (.string (nameOf k.val)) ∧ w'.cell? ⟨g, k.val * 3 + 1, none⟩ = some (.int .i64 (st k)) ∧ w'.cell? ⟨g, k.val * 3 + 2, none⟩ = some (.int .i64 (sz k)) := by
  have h4 : HoldsK (encI st sz) 3 w' g 0 four4 := by rw [hw]; exact holdsK_sortWorldK_c (encI st sz) 3 w g 0 d four4 n os hH hg (by rw [hd]; rfl)
  refine ⟨?_, fun k => ?_⟩
  · rw [hw]
    unfold sortWorldK putRowK putRow mapBlock Go.Sort.ahead grow
    refine ⟨rfl, rfl, rfl, by simp, fun i hi hne => ?_⟩
    have hne' : g ≠ i := fun e => hne (by rw [e])
    simp [Array.getElem?_append, hi, Array.getElem_modify, hne']
  · have e : ∀ j, j < 12 → w'.cell? ⟨g, 0 + j, none⟩ = some ((encI st sz four4[j / 3]!)[j % 3]!) := fun j hj => by
      have h := (h4 j (by rw [size_flatK]; exact hj)).1
      rw [get_flatK _ _ _ j (show j < 4 * 3 by omega)] at h
      exact h
    simp only [Nat.zero_add] at e
    match k with
    | ⟨0, _⟩ => exact ⟨e 0 (by omega), e 1 (by omega), e 2 (by omega)⟩
    | ⟨1, _⟩ => exact ⟨e 3 (by omega), e 4 (by omega), e 5 (by omega)⟩
    | ⟨2, _⟩ => exact ⟨e 6 (by omega), e 7 (by omega), e 8 (by omega)⟩
    | ⟨3, _⟩ => exact ⟨e 9 (by omega), e 10 (by omega), e 11 (by omega)⟩
end Go.Proofs.Ytdcjhjpbkpiddaa.St
