/-
  Slices that read as texts; lists of texts of the call's own.
-/
import Derived.Test.YthdblnfohbldcaaGreatBase
import Derived.Deep.OwnRows
namespace Go.Proofs.YthdblnfohbldcaaGreat.Pa
open Go.ChangeShapes Go.WideShapes Go.ChangeAt Go.RowKit
open Go.Proofs.YthdblnfohbldcaaGreat.Base
set_option linter.unusedVariables false
/-- The slice 'a, len' reads as the texts 'ss' in the world 'w'. -/
def RdS (w : World) (a : Option Addr) (len : Nat) (ss : List ByteArray) : Prop :=
  ss.length = len ∧ len ≤ 140737488355328 ∧ (∀ s ∈ ss, s.size ≤ 9223372036854775807) ∧ (0 < len → ∃ b off, a = some ⟨b, off, none⟩ ∧ b < w.heap.size ∧ ∀ i, i < len → w.cell? ⟨b, off + i, none⟩ = some (.string (ss.getD i ⟨#[]⟩)))
theorem getS_mem {ss : List ByteArray} {i : Nat} (h : i < ss.length) : ss.getD i ⟨#[]⟩ ∈ ss := by
  rw [List.getD_eq_getElem?_getD, List.getElem?_eq_getElem h]; exact List.getElem_mem h
theorem RdS.below {w w' : World} {a : Option Addr} {len : Nat} {ss : List ByteArray} (h : RdS w a len ss) (hb : Below w.heap.size w w') : RdS w' a len ss := by
  obtain ⟨h1, h2, h3, h4⟩ := h
  refine ⟨h1, h2, h3, fun hp => ?_⟩
  obtain ⟨b, off, rfl, hlt, hc⟩ := h4 hp
  refine ⟨b, off, rfl, Nat.lt_of_lt_of_le hlt hb.size, fun i hi => ?_⟩
  rw [hb.cell (p := ⟨b, off + i, none⟩) hlt]
  exact hc i hi
theorem RdS.old {w w' : World} {B : Nat} {a : Option Addr} {len : Nat} {ss : List ByteArray} (h : RdS w a len ss) (hl : ∀ ad, a = some ad → 0 < len → ad.block < B) (hb : Below B w w') (hs : w.heap.size ≤ w'.heap.size) : RdS w' a len ss := by
  obtain ⟨h1, h2, h3, h4⟩ := h
  refine ⟨h1, h2, h3, fun hp => ?_⟩
  obtain ⟨b, off, rfl, hlt, hc⟩ := h4 hp
  refine ⟨b, off, rfl, Nat.lt_of_lt_of_le hlt hs, fun i hi => ?_⟩
  rw [hb.cell (p := ⟨b, off + i, none⟩) (hl ⟨b, off, none⟩ rfl hp)]
  exact hc i hi
theorem RdS.cut {w : World} {a : Option Addr} {len : Nat} {ss : List ByteArray} (h : RdS w a len ss) (m : Nat) (hm : m ≤ len) : RdS w a m (ss.take m) := by
  obtain ⟨h1, h2, h3, h4⟩ := h
  refine ⟨by rw [List.length_take]; omega, by omega, fun s hs => h3 s (List.mem_of_mem_take hs), fun hp => ?_⟩
  obtain ⟨b, off, rfl, hlt, hc⟩ := h4 (by omega)
  refine ⟨b, off, rfl, hlt, fun i hi => ?_⟩
  rw [hc i (by omega), List.getD_eq_getElem?_getD, List.getD_eq_getElem?_getD, List.getElem?_take, if_pos hi]
theorem rds_nil (w : World) : RdS w none 0 [] := ⟨rfl, by omega, (fun s hs => absurd hs List.not_mem_nil), (fun h => absurd h (by omega))⟩
theorem rds_row {w : World} {x : Addr} {l c : Nat} {Sx : Nat → ByteArray} (hl : l ≤ c) (hc : c ≤ 140737488355328) (hcell : ∀ i, i < c → w.cell? (x.add i) = some (.string (Sx i)) ∧ (Sx i).size ≤ maxLen) : RdS w (some x) l ((List.range l).map Sx) := by
  refine ⟨by simp, by omega, ?_, fun hp => ?_⟩
  · intro s hs
    obtain ⟨i, hi, rfl⟩ := List.mem_map.1 hs
    have h := (hcell i (by have := List.mem_range.1 hi; omega)).2
    unfold maxLen at h
    omega
  · obtain ⟨b, off, spot⟩ := x
    have h0 := (hcell 0 (by omega)).1
    have hspot : spot = none := by simpa [Addr.add] using World.cell?_spot h0
    subst hspot
    refine ⟨b, off, rfl, ?_, fun i hi => ?_⟩
    · have := block_lt_of_cell h0
      simpa [Addr.add] using this
    · have h := (hcell i (by omega)).1
      rw [show (⟨b, off, none⟩ : Addr).add i = ⟨b, off + i, none⟩ by simp [Addr.add]] at h
      rw [h, List.getD_eq_getElem?_getD, List.getElem?_map, List.getElem?_range hi]
      rfl
/-- Texts as cells. -/
def svals (ss : List ByteArray) : List Value := ss.map Value.string
theorem svals_len (ss : List ByteArray) : (svals ss).length = ss.length := by simp [svals]
theorem svals_append (a b : List ByteArray) : svals (a ++ b) = svals a ++ svals b := by simp [svals]
/-- A list of texts of the call's own. -/
def OwnS (w : World) (base : Nat) (v : Value) (ss : List ByteArray) : Prop := w.ownsRow base 9 1 v ss.length (svals ss)
theorem infoS : (Tryz.prog.info? 9).map (fun i => (i.zero, i.size, i.bytes)) = some (some (.string ⟨#[]⟩), 1, 16) := by kernel_rfl
theorem owns_none (w : World) (base : Nat) : OwnS w base (.slice none 0 0) [] := ⟨by simp [svals], .inl ⟨rfl, rfl⟩⟩
theorem OwnS.shape {w : World} {base : Nat} {v : Value} {ss : List ByteArray} (h : OwnS w base v ss) : ∃ a c, v = .slice a ss.length c := by
  rcases h.2 with ⟨h1, h2⟩ | ⟨g, c, cur, h1, _⟩
  · rw [h2]; exact ⟨_, _, h1⟩
  · exact ⟨_, _, h1⟩
theorem OwnS.below {w w' : World} {base : Nat} {v : Value} {ss : List ByteArray} (h : OwnS w base v ss) (hb : Below w.heap.size w w') : OwnS w' base v ss := by
  refine World.ownsRow.kept (row := none) h (below_grown hb) ?_
  cases hv : v.ownBlock with
  | none => exact .inl rfl
  | some k => exact .inr (by simp)
theorem OwnS.rds {w : World} {base n c : Nat} {a : Option Addr} {ss : List ByteArray} (h : OwnS w base (.slice a n c) ss) (hl : ss.length ≤ 140737488355328) (hs : ∀ s ∈ ss, s.size ≤ 9223372036854775807) : RdS w a n ss := by
  rcases h.2 with ⟨h1, h2⟩ | ⟨g, cap', cur, h1, _⟩
  · simp only [Value.slice.injEq] at h1
    obtain ⟨rfl, rfl, rfl⟩ := h1
    have : ss = [] := List.length_eq_zero_iff.1 h2
    subst this
    exact rds_nil _
  · simp only [Value.slice.injEq] at h1
    obtain ⟨rfl, h2, rfl⟩ := h1
    subst h2
    refine ⟨rfl, hl, hs, fun hp => ⟨g, 0, rfl, (World.ownsRow.lt h g rfl).2, fun i hi => ?_⟩⟩
    rw [Nat.zero_add, World.ownsRow.cellAt h i (by omega), svals, List.getElem?_map, List.getElem?_eq_getElem hi, List.getD_eq_getElem?_getD, List.getElem?_eq_getElem hi]
    rfl
/-- append of one text onto a list of the call's own. -/
theorem pushS {ops : Array Oper} {rest : List Oper} {o : Oper} {a : Act} {Q : Exit → Act → World → Prop} (w : World) (hgd : o.guard = none) (s x : Operand)
    (ho : o.op = .call { callee := .builtin .append, args := #[s, x], argTypes := #[48, 48] })
    (base : Nat) (v : Value) (ss : List ByteArray) (hs : a.eval s = v) (hown : OwnS w base v ss) (ad : Addr) (cap : Nat) (c : ByteArray) (hx : a.eval x = .slice (some ad) 1 cap)
    (hc : w.cell? (ad.add 0) = some (.string c)) (hl : ss.length + 1 ≤ 8796093022208) (hbase : base ≤ w.heap.size)
    (h : ∀ v' w', OwnS w' base v' (ss ++ [c]) → w.grownBy w' v.ownBlock → wpList Tryz.prog ops Q rest (a.put o.dst v') w') : wpList Tryz.prog ops Q (o :: rest) a w := by
  obtain ⟨i0, hi, hz0, hz1, hz2⟩ := info_parts infoS
  refine wpList_append_own w hgd s x 48 ho base 9 i0 (.string ⟨#[]⟩) 1 16 Tryz.underlying48 hi hz0 hz1 hz2 rfl (by omega) v ss.length (svals ss) hs hown ad 1 cap [.string c] hx rfl ?_ ?_ (by unfold maxLen; omega) (by omega) hbase ?_
  · intro j u hu
    cases j with
    | zero => simp at hu; subst hu; exact hc
    | succ j => simp at hu
  · intro u hu
    simp at hu
    subst hu
    rfl
  · intro v' w' h1 h2 _
    refine h v' w' ?_ h2
    unfold OwnS
    rw [List.length_append, svals_append]
    exact h1
theorem svals_set (ss : List ByteArray) (k : Nat) (c : ByteArray) : (svals ss).set k (.string c) = svals (ss.set k c) := by simp [svals, List.map_set]
theorem svals_get (ss : List ByteArray) (i : Nat) (h : i < ss.length) : (svals ss)[i]? = some (.string (ss.getD i ⟨#[]⟩)) := by
  rw [svals, List.getElem?_map, List.getElem?_eq_getElem h, List.getD_eq_getElem?_getD, List.getElem?_eq_getElem h]; rfl
theorem OwnS.len {w : World} {base g n cap : Nat} {ss : List ByteArray} (h : OwnS w base (.slice (some ⟨g, 0, none⟩) n cap) ss) : n = ss.length := by
  rcases h.2 with ⟨h1, _⟩ | ⟨_, _, _, h1, _⟩
  · simp at h1
  · simp at h1; exact h1.2.1
theorem OwnS.cell {w : World} {base g n cap : Nat} {ss : List ByteArray} (h : OwnS w base (.slice (some ⟨g, 0, none⟩) n cap) ss) (k : Nat) (hk : k < n) : w.cell? ⟨g, k, none⟩ = some (.string (ss.getD k ⟨#[]⟩)) := by
  have hn := h.len
  subst hn
  rw [World.ownsRow.cellAt h k (by omega), svals_get ss k hk]
theorem OwnS.frozen {w : World} {base g n cap : Nat} {ss : List ByteArray} (h : OwnS w base (.slice (some ⟨g, 0, none⟩) n cap) ss) (k : Nat) : w.frozen? ⟨g, k, none⟩ = false := by
  have hn := h.len
  subst hn
  exact World.ownsRow.frozenAt h k
theorem OwnS.store {w : World} {base g n cap : Nat} {ss : List ByteArray} (h : OwnS w base (.slice (some ⟨g, 0, none⟩) n cap) ss) (k : Nat) (c : ByteArray) :
    OwnS (w.setCell ⟨g, k, none⟩ (.string c)) base (.slice (some ⟨g, 0, none⟩) n cap) (ss.set k c) ∧ w.grownBy (w.setCell ⟨g, k, none⟩ (.string c)) (some g) := by
  have hn := h.len
  subst hn
  have := World.ownsRow.stored h k (.string c)
  unfold OwnS
  rw [List.length_set, ← svals_set]
  exact this
theorem own_heapS {w : World} {base g : Nat} {ss : List ByteArray} (h : w.heap[g]? = some (.cells (svals ss).toArray 9)) (hb : base ≤ g) (hm : ss.length ≤ maxLen) : OwnS w base (.slice (some ⟨g, 0, none⟩) ss.length ss.length) ss :=
  ⟨by rw [svals_len]; omega, .inr ⟨g, ss.length, _, rfl, hb, h, Nat.le_refl _, hm, by simp [svals_len], by rw [List.take_of_length_le (by simp [svals_len])]⟩⟩
def markS : ByteArray := ⟨#[109, 97, 114, 107]⟩
theorem makeS (n : Nat) : madeCells #[Value.string ⟨#[]⟩] n = (svals (List.replicate n ⟨#[]⟩)).toArray := by
  apply Array.ext
  · rw [size_madeCells]; simp [svals]
  · intro k h1 h2
    simp [madeCells, svals, Nat.mod_one]
theorem make_row_str (n : Nat) (m : Int) (hm : m = (n : Int)) (h : n ≤ 8796093022208) : ∀ W, (Instr.makeSlice 48 (.int .i64 m) (.int .i64 m)).run Tryz.prog W = .ok (.slice (some ⟨W.heap.size, 0, none⟩) n n) (W.alloc (.cells (svals (List.replicate n ⟨#[]⟩)).toArray 9)) := by
  intro W
  subst hm
  rw [← makeS]
  exact run_make_row' 48 9 (.string ⟨#[]⟩) 16 Tryz.underlying48 infoS rfl .i64 .i64 n (by omega) (by omega) W
/-- The first k are laid, the rest are zeros. -/
def laidS (zs : List ByteArray) (k : Nat) : List ByteArray := zs.take k ++ List.replicate (zs.length - k) ⟨#[]⟩
theorem laidS_len (zs : List ByteArray) (k : Nat) (h : k ≤ zs.length) : (laidS zs k).length = zs.length := by
  unfold laidS; rw [List.length_append, List.length_take, List.length_replicate]; omega
theorem laidS_zero (zs : List ByteArray) : laidS zs 0 = List.replicate zs.length ⟨#[]⟩ := by unfold laidS; simp
theorem laidS_all (zs : List ByteArray) : laidS zs zs.length = zs := by unfold laidS; simp
theorem laidS_succ (zs : List ByteArray) (k : Nat) (h : k < zs.length) : (laidS zs k).set k (zs.getD k ⟨#[]⟩) = laidS zs (k + 1) := by
  unfold laidS
  have hl : (zs.take k).length = k := by rw [List.length_take]; omega
  rw [List.set_append_right _ _ (by omega), hl, Nat.sub_self, show zs.length - k = (zs.length - (k + 1)) + 1 by omega, List.replicate_succ, List.set_cons_zero,
    List.take_succ_eq_append_getElem h, List.append_assoc, List.getD_eq_getElem?_getD, List.getElem?_eq_getElem h]
  rfl
set_option linter.unusedVariables false
theorem weightsAll_mem {H : Type} {P : Program} {e : TypeId} {d : DataW H} {l : List (DataW H)} (hd : d ∈ l) : ∀ n ∈ d.weights P e, n ∈ DataW.weightsAll P e l := by
  induction l with
  | nil => cases hd
  | cons x r ih =>
    intro n hn
    rw [DataW.weightsAll, List.mem_append]
    rcases List.mem_cons.1 hd with rfl | h
    · exact .inl hn
    · exact .inr (ih h n hn)
theorem sized_strs {H : Type} {P : Program} {ts : List TypeId} {ds : List (DataW H)} (h : (DataW.weightsEach P ts ds).all (· ≤ reachBytes) = true) {j : Nat} {t e : TypeId} {elems spare : List (DataW H)} (ht : ts[j]? = some t) (hd : ds[j]? = some (.slice elems spare)) (hu : P.underlying t = some (.slice e)) {bytes : List UInt8} (hm : DataW.lit (.string bytes) ∈ elems) : bytes.length ≤ reachBytes := by
  have h1 : bytes.length ∈ DataW.weightsAll P e elems := weightsAll_mem hm bytes.length (by simp [DataW.weights])
  have := List.all_eq_true.1 h _ (DataW.weights_mem_each ht hd bytes.length (by
    rw [DataW.weights, hu]
    exact List.mem_cons_of_mem _ (List.mem_append.2 (.inl h1))))
  simpa using this
theorem keepS {w w' : World} {base : Nat} {v : Value} {ss : List ByteArray} {q : Option Nat} (h : OwnS w base v ss) (hg : w.grownBy w' q) (hne : ∀ i j, v.ownBlock = some i → q = some j → i ≠ j) : OwnS w' base v ss := by
  refine World.ownsRow.kept (row := q) h hg ?_
  cases hv : v.ownBlock with
  | none => exact .inl rfl
  | some i => exact .inr (fun e => hne i i hv e.symm rfl)
theorem OwnS.lt' {w : World} {base g n cap : Nat} {ss : List ByteArray} (h : OwnS w base (.slice (some ⟨g, 0, none⟩) n cap) ss) : base ≤ g ∧ g < w.heap.size := World.ownsRow.lt h g rfl
theorem svals_one (ss : List ByteArray) : ∀ v ∈ svals ss, v.oneCell' = true := by
  intro v hv
  obtain ⟨s, _, rfl⟩ := List.mem_map.1 hv
  rfl
theorem RdS.cellsAt {w : World} {a : Option Addr} {len : Nat} {ss : List ByteArray} (h : RdS w a len ss) (ad : Addr) (had : a = some ad) (j : Nat) (v : Value) (hv : (svals ss)[j]? = some v) : w.cell? (ad.add j) = some v := by
  obtain ⟨h1, h2, h3, h4⟩ := h
  have hj : j < ss.length := by
    rw [← svals_len]
    exact (List.getElem?_eq_some_iff.1 hv).1
  obtain ⟨b, off, e, hlt, hc⟩ := h4 (by omega)
  rw [had] at e
  cases e
  rw [show (⟨b, off, none⟩ : Addr).add j = ⟨b, off + j, none⟩ by simp [Addr.add], hc j (by omega), ← svals_get ss j hj]
  exact hv
/-- append of a whole slice of texts onto a list of the call's own. -/
theorem joinS {ops : Array Oper} {rest : List Oper} {o : Oper} {a : Act} {Q : Exit → Act → World → Prop} (w : World) (hgd : o.guard = none) (s x : Operand)
    (ho : o.op = .call { callee := .builtin .append, args := #[s, x], argTypes := #[48, 48] })
    (base : Nat) (v : Value) (bs : List ByteArray) (hs : a.eval s = v) (hown : OwnS w base v bs) (xa : Option Addr) (m cap : Nat) (cs : List ByteArray) (hx : a.eval x = .slice xa m cap)
    (hr : RdS w xa m cs) (hnil : xa = none → m = 0 ∧ cap = 0) (hl : bs.length + m ≤ 8796093022208) (hbase : base ≤ w.heap.size)
    (h : ∀ v' w', OwnS w' base v' (bs ++ cs) → w.grownBy w' v.ownBlock → wpList Tryz.prog ops Q rest (a.put o.dst v') w') : wpList Tryz.prog ops Q (o :: rest) a w := by
  obtain ⟨i0, hi, hz0, hz1, hz2⟩ := info_parts infoS
  have hcl := hr.1
  cases xa with
  | none =>
    obtain ⟨rfl, rfl⟩ := hnil rfl
    have : cs = [] := List.length_eq_zero_iff.1 hcl
    subst this
    refine wpList_append_own_none hgd s x 48 ho base 9 i0 1 Tryz.underlying48 hi v bs.length (svals bs) hs hown hx ?_
    exact h v w (by rw [List.append_nil]; exact hown) (World.grownBy.refl _ _)
  | some ad =>
    refine wpList_append_own w hgd s x 48 ho base 9 i0 (.string ⟨#[]⟩) 1 16 Tryz.underlying48 hi hz0 hz1 hz2 rfl (by omega) v bs.length (svals bs) hs hown ad m cap (svals cs) hx (by rw [svals_len]; omega) (fun j u hu => hr.cellsAt ad rfl j u hu) (svals_one _) (by unfold maxLen; omega) (by omega) hbase ?_
    intro v' w' h1 h2 _
    refine h v' w' ?_ h2
    unfold OwnS
    rw [List.length_append, svals_append, hcl]
    exact h1
theorem OwnS.nil' {w : World} {base n cap : Nat} {a : Option Addr} {ss : List ByteArray} (h : OwnS w base (.slice a n cap) ss) (ha : a = none) : n = 0 ∧ cap = 0 := by
  rcases h.2 with ⟨h1, _⟩ | ⟨_, _, _, h1, _⟩
  · simp only [Value.slice.injEq] at h1; exact ⟨h1.2.1, h1.2.2⟩
  · simp only [Value.slice.injEq] at h1; rw [ha] at h1; cases h1.1
theorem OwnS.cap {w : World} {base n cap : Nat} {a : Option Addr} {ss : List ByteArray} (h : OwnS w base (.slice a n cap) ss) : n = ss.length ∧ n ≤ cap ∧ cap ≤ 9223372036854775807 := by
  rcases h.2 with ⟨h1, h2⟩ | ⟨_, _, _, h1, _, _, h3, h4, _⟩
  · simp only [Value.slice.injEq] at h1; exact ⟨by omega, by omega, by omega⟩
  · simp only [Value.slice.injEq] at h1
    unfold maxLen at h4
    exact ⟨h1.2.1, by omega, by omega⟩
theorem owns_empty (w : World) (base : Nat) (hb : base ≤ w.heap.size) : OwnS (w.alloc (.cells #[] 9)) base (.slice (some ⟨w.heap.size, 0, none⟩) 0 0) [] :=
  own_heapS (ss := []) (by simp [World.alloc, svals, -World.alloc_eq]) hb (Nat.zero_le _)
theorem OwnS.mono {w : World} {base b2 : Nat} {v : Value} {ss : List ByteArray} (h : OwnS w base v ss) (hb : b2 ≤ base) : OwnS w b2 v ss := by
  refine ⟨h.1, ?_⟩
  rcases h.2 with h1 | ⟨g, c, cur, h1, h2, h3⟩
  · exact .inl h1
  · exact .inr ⟨g, c, cur, h1, Nat.le_trans hb h2, h3⟩
theorem OwnS.blk {w : World} {base : Nat} {v : Value} {ss : List ByteArray} (h : OwnS w base v ss) : ∀ i, v.ownBlock = some i → base ≤ i ∧ i < w.heap.size := fun i e => World.ownsRow.lt h i e
end Go.Proofs.YthdblnfohbldcaaGreat.Pa
