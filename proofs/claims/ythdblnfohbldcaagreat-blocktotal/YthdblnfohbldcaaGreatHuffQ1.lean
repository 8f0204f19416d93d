/-
  Packages in memory: a weight and 256 numbers; rows of them.
-/
import Derived.Test.YthdblnfohbldcaaGreatIBase
import Derived.Test.YthdblnfohbldcaaGreatHuffP2
import Derived.Deep.MidRow
import Derived.Deep.RegionHeld
namespace Go.Proofs.YthdblnfohbldcaaGreat.Pm
open Go.ChangeShapes Go.WideShapes Go.ChangeAt Go.RowKit
open Go.Proofs.YthdblnfohbldcaaGreat.Base
set_option linter.unusedVariables false
/-- The cells of a package; K: what its numbers are. -/
def pcells (K : IntKind) (p : Pk) : List Value := .int .i64 (p.1 : Int) :: p.2.map fun (t : Nat) => Value.int K (t : Int)
def lcells (K : IntKind) (ps : List Pk) : List Value := ps.flatMap (pcells K)
theorem pcells_len (K : IntKind) {p : Pk} (h : p.2.length = 256) : (pcells K p).length = 257 := by simp [pcells, h]
theorem pcells_one (K : IntKind) (p : Pk) : ∀ v ∈ pcells K p, v.oneCell' = true := by
  intro v hv
  simp only [pcells, List.mem_cons, List.mem_map] at hv
  rcases hv with rfl | ⟨t, _, rfl⟩ <;> rfl
theorem lcells_one (K : IntKind) (ps : List Pk) : ∀ v ∈ lcells K ps, v.oneCell' = true := by
  intro v hv
  simp only [lcells, List.mem_flatMap] at hv
  obtain ⟨p, _, h⟩ := hv
  exact pcells_one K p v h
theorem pcells_w (K : IntKind) (p : Pk) : (pcells K p)[0]? = some (.int .i64 (p.1 : Int)) := rfl
theorem pcells_t (K : IntKind) (p : Pk) (s : Nat) (h : s < p.2.length) : (pcells K p)[1 + s]? = some (.int K ((p.2.getD s 0 : Nat) : Int)) := by
  rw [pcells, Nat.add_comm 1 s, List.getElem?_cons_succ, List.getElem?_map, List.getElem?_eq_getElem h, List.getD_eq_getElem?_getD, List.getElem?_eq_getElem h]; rfl
theorem lcells_cons (K : IntKind) (p : Pk) (ps : List Pk) : lcells K (p :: ps) = pcells K p ++ lcells K ps := rfl
theorem lcells_append (K : IntKind) (ps qs : List Pk) : lcells K (ps ++ qs) = lcells K ps ++ lcells K qs := by simp [lcells]
theorem lcells_len (K : IntKind) : ∀ {ps : List Pk}, Wide 256 ps → (lcells K ps).length = ps.length * 257
  | [], _ => rfl
  | p :: ps, h => by
    rw [lcells_cons, List.length_append, pcells_len K (h p (by simp)), lcells_len K (ps := ps) (fun q hq => h q (by simp [hq])), List.length_cons]; omega
theorem lcells_get (K : IntKind) : ∀ {ps : List Pk}, Wide 256 ps → ∀ i, i < ps.length → ∀ j, j < 257 → (lcells K ps)[i * 257 + j]? = (pcells K (ps.getD i (0, [])))[j]?
  | [], _, i, h, _, _ => by simp at h
  | p :: ps, hw, 0, _, j, hj => by
    rw [lcells_cons, Nat.zero_mul, Nat.zero_add, List.getElem?_append_left (by rw [pcells_len K (hw p (by simp))]; exact hj)]; rfl
  | p :: ps, hw, i + 1, h, j, hj => by
    have hl := pcells_len K (hw p (by simp))
    rw [lcells_cons, List.getElem?_append_right (by omega), hl, show (i + 1) * 257 + j - 257 = i * 257 + j by omega, lcells_get K (ps := ps) (fun q hq => hw q (by simp [hq])) i (by simpa using h) j hj]
    rfl
/-- The slice 'a, len' reads as the packages 'ps'. -/
def RdP (K : IntKind) (w : World) (a : Option Addr) (len : Nat) (ps : List Pk) : Prop :=
  ps.length = len ∧ Wide 256 ps ∧ (0 < len → ∃ b off, a = some ⟨b, off, none⟩ ∧ b < w.heap.size ∧ w.rangeAt b off (lcells K ps))
theorem rdp_zero (K : IntKind) (w : World) (a : Option Addr) : RdP K w a 0 [] := ⟨rfl, by simp [Wide], fun h => absurd h (by omega)⟩
theorem range_below {w w' : World} {b o : Nat} {cs : List Value} (h : w.rangeAt b o cs) (hb : Below w.heap.size w w') (hlt : b < w.heap.size) : w'.rangeAt b o cs := fun j v hv => by
  rw [hb.cell (p := ⟨b, o + j, none⟩) hlt]; exact h j v hv
theorem range_grown {w w' : World} {b o : Nat} {cs : List Value} {r : Option Nat} (h : w.rangeAt b o cs) (hg : w.grownBy w' r) (hne : r ≠ some b) : w'.rangeAt b o cs := fun j v hv =>
  hg.cell (h j v hv) (fun e => hne e.symm)
theorem RdP.below {K : IntKind} {w w' : World} {a : Option Addr} {len : Nat} {ps : List Pk} (h : RdP K w a len ps) (hb : Below w.heap.size w w') : RdP K w' a len ps := by
  obtain ⟨h1, h2, h3⟩ := h
  refine ⟨h1, h2, fun hp => ?_⟩
  obtain ⟨b, off, rfl, hlt, hc⟩ := h3 hp
  exact ⟨b, off, rfl, Nat.lt_of_lt_of_le hlt hb.size, range_below hc hb hlt⟩
theorem range_sub {w : World} {b o : Nat} {cs ds : List Value} {k : Nat} (h : w.rangeAt b o cs) (hd : ∀ j, j < ds.length → cs[k + j]? = ds[j]?) : w.rangeAt b (o + k) ds := fun j v hv => by
  have hj : j < ds.length := (List.getElem?_eq_some_iff.1 hv).1
  rw [Nat.add_assoc]
  exact h (k + j) v (by rw [hd j hj]; exact hv)
/-- One of them. -/
theorem range_one {K : IntKind} {w : World} {b off : Nat} {ps : List Pk} (h : w.rangeAt b off (lcells K ps)) (hw : Wide 256 ps) (i : Nat) (hi : i < ps.length) : w.rangeAt b (off + i * 257) (pcells K (ps.getD i (0, []))) := by
  have hm : ps.getD i (0, []) ∈ ps := by rw [List.getD_eq_getElem?_getD, List.getElem?_eq_getElem hi]; exact List.getElem_mem hi
  refine range_sub h fun j hj => ?_
  rw [pcells_len K (hw _ hm)] at hj
  exact lcells_get K hw i hi j hj
theorem wide_get {n : Nat} {ps : List Pk} (hw : Wide n ps) (i : Nat) (hi : i < ps.length) : (ps.getD i (0, [])).2.length = n := by
  have hm : ps.getD i (0, []) ∈ ps := by rw [List.getD_eq_getElem?_getD, List.getElem?_eq_getElem hi]; exact List.getElem_mem hi
  exact hw _ hm
theorem lcells_drop (K : IntKind) : ∀ {ps : List Pk}, Wide 256 ps → ∀ i, i ≤ ps.length → (lcells K ps).drop (i * 257) = lcells K (ps.drop i)
  | [], _, i, h => by
    have : i = 0 := by simpa using h
    subst this; simp [lcells]
  | p :: ps, hw, 0, _ => by simp
  | p :: ps, hw, i + 1, h => by
    have hl := pcells_len K (hw p (by simp))
    rw [lcells_cons, List.drop_succ_cons, show (i + 1) * 257 = (pcells K p).length + i * 257 by omega, ← List.drop_drop, List.drop_left, lcells_drop K (ps := ps) (fun q hq => hw q (by simp [hq])) i (by simpa using h)]
theorem lcells_take (K : IntKind) : ∀ {ps : List Pk}, Wide 256 ps → ∀ i, i ≤ ps.length → (lcells K ps).take (i * 257) = lcells K (ps.take i)
  | [], _, i, h => by
    have : i = 0 := by simpa using h
    subst this; simp [lcells]
  | p :: ps, hw, 0, _ => by simp [lcells]
  | p :: ps, hw, i + 1, h => by
    have hl := pcells_len K (hw p (by simp))
    rw [lcells_cons, List.take_succ_cons, lcells_cons, show (i + 1) * 257 = (pcells K p).length + i * 257 by omega, List.take_length_add_append, lcells_take K (ps := ps) (fun q hq => hw q (by simp [hq])) i (by simpa using h)]
theorem wide_drop {n : Nat} {ps : List Pk} (h : Wide n ps) (i : Nat) : Wide n (ps.drop i) := fun p hp => h p (List.mem_of_mem_drop hp)
theorem wide_take {n : Nat} {ps : List Pk} (h : Wide n ps) (i : Nat) : Wide n (ps.take i) := fun p hp => h p (List.mem_of_mem_take hp)
theorem range_drop {K : IntKind} {w : World} {b off : Nat} {ps : List Pk} (h : w.rangeAt b off (lcells K ps)) (hw : Wide 256 ps) (i : Nat) (hi : i ≤ ps.length) : w.rangeAt b (off + i * 257) (lcells K (ps.drop i)) :=
  range_sub h fun j hj => by rw [← lcells_drop K hw i hi, List.getElem?_drop]
theorem range_take {K : IntKind} {w : World} {b off : Nat} {ps : List Pk} (h : w.rangeAt b off (lcells K ps)) (hw : Wide 256 ps) (i : Nat) (hi : i ≤ ps.length) : w.rangeAt b off (lcells K (ps.take i)) := fun j v hv => by
  rw [← lcells_take K hw i hi, List.getElem?_take] at hv
  split at hv
  · exact h j v hv
  · cases hv
/-- A row of the call's own, of packages of type t. -/
def OwnP (t : TypeId) (K : IntKind) (w : World) (base : Nat) (v : Value) (ps : List Pk) : Prop := Wide 256 ps ∧ w.ownsRow base t 257 v ps.length (lcells K ps)
theorem ownP_none (t : TypeId) (K : IntKind) (w : World) (base : Nat) : OwnP t K w base (.slice none 0 0) [] := ⟨by simp [Wide], w.ownsRow_nil base t 257⟩
theorem OwnP.rd {t : TypeId} {K : IntKind} {w : World} {base : Nat} {v : Value} {ps : List Pk} (h : OwnP t K w base v ps) : ∃ a n c, v = .slice a n c ∧ n = ps.length ∧ n ≤ c ∧ c ≤ maxLen ∧ RdP K w a n ps := by
  rcases h.2.2 with ⟨h1, h2⟩ | ⟨g, cap, cur, h1, h2, h3, h4, h5, h6, h7⟩
  · refine ⟨none, 0, 0, h1, h2.symm, Nat.le_refl _, Nat.zero_le _, h2, h.1, fun h => absurd h (by omega)⟩
  · refine ⟨some ⟨g, 0, none⟩, ps.length, cap, h1, rfl, h4, h5, rfl, h.1, fun _ => ⟨g, 0, rfl, (h.2.lt g (by rw [h1]; rfl)).2, fun j u hu => ?_⟩⟩
    have := h.2.cells (g := g) (by rw [h1]; rfl) j u hu
    rwa [Addr.add_mid] at this
theorem OwnP.below {t : TypeId} {K : IntKind} {w w' : World} {base : Nat} {v : Value} {ps : List Pk} (h : OwnP t K w base v ps) (hb : Below w.heap.size w w') : OwnP t K w' base v ps := by
  refine ⟨h.1, World.ownsRow.kept (row := none) h.2 (below_grown hb) ?_⟩
  cases hv : v.ownBlock with
  | none => exact .inl rfl
  | some k => exact .inr (by simp)
theorem OwnP.mono {t : TypeId} {K : IntKind} {w : World} {base base' : Nat} {v : Value} {ps : List Pk} (h : OwnP t K w base v ps) (hb : base' ≤ base) : OwnP t K w base' v ps := by
  obtain ⟨h0, h1, h2⟩ := h
  refine ⟨h0, h1, ?_⟩
  rcases h2 with h2 | ⟨g, cap, cur, e1, e2, e3⟩
  · exact .inl h2
  · exact .inr ⟨g, cap, cur, e1, Nat.le_trans hb e2, e3⟩
theorem OwnP.keep {t : TypeId} {K : IntKind} {w w' : World} {base : Nat} {v : Value} {ps : List Pk} {r : Option Nat} (h : OwnP t K w base v ps) (hg : w.grownBy w' r) (hne : ∀ i, v.ownBlock = some i → r ≠ some i) : OwnP t K w' base v ps := by
  refine ⟨h.1, World.ownsRow.kept (row := r) h.2 hg ?_⟩
  cases hv : v.ownBlock with
  | none => exact .inl rfl
  | some k => exact .inr (fun e => hne k hv e.symm)
theorem infoP : (Tryz.prog.info? 161).map (fun i => (i.zero, i.size, i.bytes)) = some (some (.agg (pcells .u8 (0, List.replicate 256 0)).toArray), 257, 264) := by kernel_rfl
theorem sizeP : (Tryz.prog.info? 161).map (·.size) = some 257 := by kernel_rfl
def zpack : Pk := (0, List.replicate 256 0)
theorem info_of {t : TypeId} {Z : Value} {s b : Nat} (h : (Tryz.prog.info? t).map (fun i => (i.zero, i.size, i.bytes)) = some (some Z, s, b)) : ∃ i, Tryz.prog.info? t = some i ∧ i.zero = some Z ∧ i.size = s ∧ i.bytes = b := by
  cases hq : Tryz.prog.info? t with
  | none => simp [hq] at h
  | some i =>
    simp only [hq, Option.map_some, Option.some.injEq, Prod.mk.injEq] at h
    exact ⟨i, rfl, h.1, h.2.1, h.2.2⟩
theorem zero_of {t : TypeId} {Z : Value} {s b : Nat} (h : (Tryz.prog.info? t).map (fun i => (i.zero, i.size, i.bytes)) = some (some Z, s, b)) : ∀ W, (zeroValue t).run Tryz.prog W = .ok Z W := by
  intro W
  obtain ⟨i, h1, h2, _⟩ := info_of h
  simp [zeroValue, typeInfo, h1, h2]
theorem zeroP : ∃ Z : List Value, Hid (Z = pcells .u8 zpack) ∧ (Tryz.prog.info? 161).map (fun i => (i.zero, i.size, i.bytes)) = some (some (.agg Z.toArray), 257, 264) ∧ ∀ W, (zeroValue 161).run Tryz.prog W = .ok (.agg Z.toArray) W :=
  ⟨_, rfl, infoP, zero_of infoP⟩
theorem store_run {t : TypeId} (hi : (Tryz.prog.info? t).map (·.size) = some 257) (E : List Value) (hl : E.length = 257) (h1 : ∀ v ∈ E, v.oneCell' = true) (W : World) (g o : Nat) (h : W.there g o 257) :
    (Instr.storeAt t (.pointer (some ⟨g, o, none⟩)) (.agg E.toArray)).run Tryz.prog W = .ok () (W.setCells g o E) := by
  have e : E.toArray.size = 257 := by rw [List.size_toArray, hl]
  have := run_storeAt_mid (P := Tryz.prog) W g o t E.toArray (by rw [e]; exact h) (by rw [e]; exact hi) (all_oneCell_toArray h1)
  rwa [List.toList_toArray] at this
theorem there_new (W : World) (cs : List Value) (t : TypeId) (hs : cs.length = 257) : (W.alloc (.cells cs.toArray t)).there W.heap.size 0 257 := by
  intro j hj
  rw [cell_of_row _ _ _ _ _ _ (heap_alloc_new W (.cells cs.toArray t))]
  refine ⟨?_, frozen_of_row _ _ _ _ _ (heap_alloc_new _ _)⟩
  rw [List.getElem?_toArray, List.getElem?_eq_getElem (by omega)]; rfl
/-- A block that is one package. -/
def PBlk (t : TypeId) (K : IntKind) (w : World) (g : Nat) (p : Pk) : Prop := w.heap[g]? = some (.cells (pcells K p).toArray t)
theorem PBlk.lt {t : TypeId} {K : IntKind} {w : World} {g : Nat} {p : Pk} (h : PBlk t K w g p) : g < w.heap.size := (Array.getElem?_eq_some_iff.1 h).1
theorem PBlk.range {t : TypeId} {K : IntKind} {w : World} {g : Nat} {p : Pk} (h : PBlk t K w g p) : w.rangeAt g 0 (pcells K p) := fun j v hv => by
  rw [Nat.zero_add, cell_of_row _ _ _ _ _ _ h, List.getElem?_toArray]; exact hv
theorem PBlk.frozen {t : TypeId} {K : IntKind} {w : World} {g : Nat} {p : Pk} (h : PBlk t K w g p) (k : Nat) : w.frozen? ⟨g, k, none⟩ = false := frozen_of_row _ _ _ _ _ h
theorem PBlk.w {t : TypeId} {K : IntKind} {w : World} {g : Nat} {p : Pk} (h : PBlk t K w g p) : w.cell? ⟨g, 0, none⟩ = some (.int .i64 (p.1 : Int)) := h.range 0 _ (pcells_w K p)
theorem PBlk.t {t : TypeId} {K : IntKind} {w : World} {g : Nat} {p : Pk} (h : PBlk t K w g p) (s : Nat) (hs : s < p.2.length) : w.cell? ⟨g, 1 + s, none⟩ = some (.int K ((p.2.getD s 0 : Nat) : Int)) := by
  have := h.range (1 + s) _ (pcells_t K p s hs)
  rwa [Nat.zero_add] at this
theorem pcells_setT (K : IntKind) (p : Pk) (s c : Nat) : (pcells K p).set (1 + s) (.int K (c : Int)) = pcells K (p.1, p.2.set s c) := by
  rw [pcells, Nat.add_comm 1 s, List.set_cons_succ, pcells, List.map_set]
theorem PBlk.setT {t : TypeId} {K : IntKind} {w : World} {g : Nat} {p : Pk} (h : PBlk t K w g p) (s c : Nat) : PBlk t K (w.setCell ⟨g, 1 + s, none⟩ (.int K (c : Int))) g (p.1, p.2.set s c) := by
  unfold PBlk
  rw [heap_setCell_same _ _ _ _ _ _ h, List.setIfInBounds_toArray, pcells_setT]
theorem PBlk.grown {t : TypeId} {K : IntKind} {w w' : World} {g : Nat} {p : Pk} {r : Option Nat} (h : PBlk t K w g p) (hg : w.grownBy w' r) (hr : r ≠ some g) : PBlk t K w' g p := by
  unfold PBlk
  rw [hg.block g h.lt (fun e => hr e.symm)]
  exact h
theorem PBlk.below {t : TypeId} {K : IntKind} {w w' : World} {g : Nat} {p : Pk} (h : PBlk t K w g p) (hb : Below w.heap.size w w') : PBlk t K w' g p := h.grown (below_grown hb) (by simp)
theorem setCells_cells {t : TypeId} {b : Nat} : ∀ (vs cs : List Value) (o : Nat) (w : World), w.heap[b]? = some (.cells cs.toArray t) → o + vs.length ≤ cs.length → (w.setCells b o vs).heap[b]? = some (.cells (cs.take o ++ vs ++ cs.drop (o + vs.length)).toArray t)
  | [], cs, o, w, h, _ => by simpa [World.setCells] using h
  | v :: vs, cs, o, w, h, hl => by
    rw [List.length_cons] at hl
    have h1 := setCells_cells (t := t) vs (cs.set o v) (o + 1) (w.setCell ⟨b, o, none⟩ v) (by rw [heap_setCell_same _ _ _ _ _ _ h, List.setIfInBounds_toArray]) (by rw [List.length_set]; omega)
    have e : (cs.set o v).take (o + 1) ++ vs ++ (cs.set o v).drop (o + 1 + vs.length) = cs.take o ++ (v :: vs) ++ cs.drop (o + (v :: vs).length) := by
      rw [List.drop_set, if_pos (by omega), List.take_set, List.take_succ_eq_append_getElem (by omega), List.set_append_right _ _ (by rw [List.length_take]; omega), List.length_take, Nat.min_eq_left (by omega), Nat.sub_self, List.set_cons_zero, List.length_cons, show o + (vs.length + 1) = o + 1 + vs.length by omega]
      simp
    rw [e] at h1
    exact h1
theorem pblk_set {t : TypeId} {K : IntKind} {w : World} {g : Nat} {cs : List Value} {p : Pk} (h : w.heap[g]? = some (.cells cs.toArray t)) (hl : cs.length = (pcells K p).length) : PBlk t K (w.setCells g 0 (pcells K p)) g p := by
  have := setCells_cells (pcells K p) cs 0 w h (by omega)
  rw [List.take_zero, List.nil_append, Nat.zero_add, ← hl, List.drop_length, List.append_nil] at this
  exact this
theorem grown_setCells {w0 : World} {b : Nat} : ∀ (vs : List Value) (o : Nat) (w : World), w0.grownBy w (some b) → w0.grownBy (w.setCells b o vs) (some b)
  | [], _, _, h => h
  | v :: vs, o, w, h => grown_setCells vs (o + 1) (w.setCell ⟨b, o, none⟩ v) (grown_cell h o v)
theorem below_setCells {B : Nat} {w0 w : World} {b o : Nat} (vs : List Value) (h : Below B w0 w) (hs : B ≤ w.heap.size) (hb : B ≤ b) : Below B w0 (w.setCells b o vs) :=
  h.grown (grown_setCells vs o w (World.grownBy.refl _ _)) hs (fun i e => by cases e; exact hb)
theorem storeC (W : World) (b o : Nat) (E : List Value) (n : Nat) (hn : E.length = n) (h : W.there b o n) (h1 : ∀ v ∈ E, v.oneCell' = true) : (storeCells ⟨b, o, none⟩ E).run Tryz.prog W = .ok () (W.setCells b o E) := by
  have := run_storeCells_cells (P := Tryz.prog) b o E 0 W (fun j hj => by simpa using (h j (by omega)).1) (fun j hj => by simpa using (h j (by omega)).2) h1
  simpa using this
theorem there_blk {w : World} {g : Nat} {t : TypeId} {cs : List Value} (h : w.heap[g]? = some (.cells cs.toArray t)) (n : Nat) (hn : cs.length = n) : w.there g 0 n := by
  intro j hj
  rw [cell_of_row _ _ _ _ _ _ h]
  refine ⟨?_, frozen_of_row _ _ _ _ _ h⟩
  rw [List.getElem?_toArray, List.getElem?_eq_getElem (by omega)]; rfl
theorem uP : ∃ d, Tryz.prog.underlying 161 = some d ∧ d.isRow = true := ⟨_, Tryz.underlying161, rfl⟩
theorem results_mid1 {P : Program} {fn : Func} {p : Tmp} {ty : TypeId} (h : fn.results = #[.cell p ty]) (tmps : Array Value) (w : World) (g : Nat) (cs : List Value) (d : TypeDesc)
    (hp : tmps.getD p undef = .pointer (some ⟨g, 0, none⟩)) (hc : w.rangeAt g 0 cs) (hu : P.underlying ty = some d) (hd : d.isRow = true) (hi : (P.info? ty).map (·.size) = some cs.length) :
    (results fn tmps).run P w = .ok (.agg cs.toArray) w := by
  have hp' : tmps[p]?.getD undef = .pointer (some ⟨g, 0, none⟩) := by simpa using hp
  simp [results, h, hp', asAddr, run_loadVar_mid w g 0 ty cs d hc hu hd hi]
end Go.Proofs.YthdblnfohbldcaaGreat.Pm
