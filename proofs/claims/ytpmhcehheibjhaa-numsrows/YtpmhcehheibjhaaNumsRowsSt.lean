/-
  Items in memory of the call's own, their bytes, and where each begins.
-/
import Derived.Test.YtpmhcehheibjhaaNumsFound
namespace Go.Proofs.Ytpmhcehheibjhaa.Curs
open Go.ChangeShapes Go.WideShapes Go.ChangeAt Go.RowKit
open Go.Proofs.Ytpmhcehheibjhaa.Base Go.Proofs.Ytpmhcehheibjhaa.Nums
set_option linter.unusedVariables false
def lay (xs : List Itm) : List (BitVec 8) := xs.flatMap layB
theorem lay_append (xs ys : List Itm) : lay (xs ++ ys) = lay xs ++ lay ys := by simp [lay]
theorem lay_one (x : Itm) : lay [x] = layB x := by simp [lay]
def icells (xs : List Itm) : List Value := xs.flatMap fun x => [.int .i64 x.kind, .int .i64 x.v, .int .i64 x.n, .string x.s]
theorem icells_append (xs ys : List Itm) : icells (xs ++ ys) = icells xs ++ icells ys := by simp [icells]
def itAt (xs : List Itm) (i : Nat) : Itm := xs.getD i ⟨0, 0, 0, ⟨#[]⟩⟩
theorem drop_it (xs : List Itm) (k : Nat) (h : k < xs.length) : xs.drop k = itAt xs k :: xs.drop (k + 1) := by
  unfold itAt
  rw [List.drop_eq_getElem_cons h, List.getD_eq_getElem?_getD, List.getElem?_eq_getElem h]; rfl
theorem take_it (xs : List Itm) (k : Nat) (h : k < xs.length) : xs.take (k + 1) = xs.take k ++ [itAt xs k] := by
  unfold itAt
  rw [List.take_succ_eq_append_getElem h, List.getD_eq_getElem?_getD, List.getElem?_eq_getElem h]; rfl
theorem icells_get (xs : List Itm) : ∀ i, i < xs.length → (icells xs)[i * 4]? = some (.int .i64 (itAt xs i).kind) ∧ (icells xs)[i * 4 + 1]? = some (.int .i64 (itAt xs i).v) ∧ (icells xs)[i * 4 + 2]? = some (.int .i64 (itAt xs i).n) ∧ (icells xs)[i * 4 + 3]? = some (.string (itAt xs i).s) := by
  induction xs with
  | nil => intro i h; simp at h
  | cons x r ih =>
    intro i h
    have e : icells (x :: r) = .int .i64 x.kind :: .int .i64 x.v :: .int .i64 x.n :: .string x.s :: icells r := rfl
    cases i with
    | zero => rw [e]; exact ⟨rfl, rfl, rfl, rfl⟩
    | succ i =>
      obtain ⟨h1, h2, h3, h4⟩ := ih i (by simpa using h)
      have e2 : itAt (x :: r) (i + 1) = itAt r i := by unfold itAt; simp
      rw [e, e2, show (i + 1) * 4 = i * 4 + 1 + 1 + 1 + 1 by omega, show i * 4 + 1 + 1 + 1 + 1 + 1 = (i * 4 + 1) + 1 + 1 + 1 + 1 by omega, show i * 4 + 1 + 1 + 1 + 1 + 2 = (i * 4 + 2) + 1 + 1 + 1 + 1 by omega, show i * 4 + 1 + 1 + 1 + 1 + 3 = (i * 4 + 3) + 1 + 1 + 1 + 1 by omega]
      simp only [List.getElem?_cons_succ]
      exact ⟨h1, h2, h3, h4⟩
/-- Where each item begins. -/
def offs : Nat → List Itm → List Value
  | _, [] => []
  | p, x :: r => .int .i64 (p : Int) :: offs (p + (layB x).length) r
theorem offs_snoc (xs : List Itm) (x : Itm) : ∀ p, offs p (xs ++ [x]) = offs p xs ++ [.int .i64 ((p + (lay xs).length : Nat) : Int)] := by
  induction xs with
  | nil => intro p; simp [offs, lay]
  | cons y r ih =>
    intro p
    show _ :: offs (p + (layB y).length) (r ++ [x]) = _ :: (offs (p + (layB y).length) r ++ _)
    rw [ih, show lay (y :: r) = layB y ++ lay r by simp [lay], List.length_append, Nat.add_assoc]
theorem length_offs (xs : List Itm) : ∀ p, (offs p xs).length = xs.length := by
  induction xs with
  | nil => intro p; rfl
  | cons y r ih => intro p; show (offs _ r).length + 1 = _; rw [ih]; rfl
theorem offs_get (xs : List Itm) : ∀ p i, i < xs.length → (offs p xs)[i]? = some (.int .i64 ((p + (lay (xs.take i)).length : Nat) : Int)) := by
  induction xs with
  | nil => intro p i h; simp at h
  | cons y r ih =>
    intro p i h
    cases i with
    | zero => simp [offs, lay]
    | succ i =>
      show (offs (p + (layB y).length) r)[i]? = _
      rw [ih _ i (by simpa using h), List.take_succ_cons, show lay (y :: r.take i) = layB y ++ lay (r.take i) by simp [lay], List.length_append, Nat.add_assoc]
/-- The items, their bytes, where each begins. -/
structure St (w : World) (base : Nat) (v3 v4 v5 : Value) (xs : List Itm) : Prop where
  items : w.ownsRow base 39 4 v3 xs.length (icells xs)
  bytes : Own w base v4 (lay xs)
  places : w.ownsRow base 3 1 v5 xs.length (offs 0 xs)
/-- The block i is none of theirs. -/
def Off (v3 v4 v5 : Value) (i : Nat) : Prop := v3.ownBlock ≠ some i ∧ v4.ownBlock ≠ some i ∧ v5.ownBlock ≠ some i
theorem St.off {w : World} {base i : Nat} {v3 v4 v5 : Value} {xs : List Itm} (h : St w base v3 v4 v5 xs) (hi : w.heap.size ≤ i) : Off v3 v4 v5 i :=
  ⟨fun e => by have := (World.ownsRow.lt h.items i e).2; omega, fun e => by have := (blk h.bytes i e).2; omega, fun e => by have := (World.ownsRow.lt h.places i e).2; omega⟩
theorem row_keep {w w' : World} {base size n : Nat} {e : TypeId} {v : Value} {xs : List Value} {r : Option Nat} (h : w.ownsRow base e size v n xs) (hg : w.grownBy w' r) (hr : ∀ i, r = some i → v.ownBlock ≠ some i) : w'.ownsRow base e size v n xs := by
  refine World.ownsRow.kept (row := r) h hg ?_
  cases hv : v.ownBlock with
  | none => exact .inl rfl
  | some i => exact .inr (fun e => hr i e.symm hv)
theorem St.keep {w w' : World} {base : Nat} {v3 v4 v5 : Value} {xs : List Itm} {r : Option Nat} (h : St w base v3 v4 v5 xs) (hg : w.grownBy w' r) (hr : ∀ i, r = some i → Off v3 v4 v5 i) : St w' base v3 v4 v5 xs :=
  ⟨row_keep h.items hg (fun i e => (hr i e).1), Base.keep h.bytes hg (fun i j e1 e2 e => (hr j e2).2.1 (by rw [e1, e])), row_keep h.places hg (fun i e => (hr i e).2.2)⟩
theorem St.below {w w' : World} {base : Nat} {v3 v4 v5 : Value} {xs : List Itm} (h : St w base v3 v4 v5 xs) (hb : Below w.heap.size w w') : St w' base v3 v4 v5 xs := h.keep (below_grown hb) (fun i e => by cases e)
theorem row_types {w : World} {base base' size size' n n' : Nat} {e e' : TypeId} {v u : Value} {xs ys : List Value} (hr : w.ownsRow base e size v n xs) (ho : w.ownsRow base' e' size' u n' ys) (hne : e ≠ e') : ∀ i, v.ownBlock = some i → u.ownBlock ≠ some i := by
  intro i h1 h2
  rcases hr.2 with ⟨e1, _⟩ | ⟨g, cap, cur, e1, _, e2, _⟩
  · rw [e1] at h1; cases h1
  · rcases ho.2 with ⟨e3, _⟩ | ⟨g', cap', cur', e3, _, e4, _⟩
    · rw [e3] at h2; cases h2
    · rw [e1] at h1
      rw [e3] at h2
      have a1 : g = i := Option.some.inj h1
      have a2 : g' = i := Option.some.inj h2
      subst a1
      subst a2
      rw [e2] at e4
      have h4 := congrArg (fun o => match o with | some (Obj.cells _ t _) => t | _ => e) e4
      exact hne h4
/-- The same, where the bytes are but read. -/
structure St2 (w : World) (base : Nat) (v3 : Value) (a4 : Option Addr) (n4 : Nat) (v5 : Value) (xs : List Itm) : Prop where
  items : w.ownsRow base 39 4 v3 xs.length (icells xs)
  bytes : Rd w a4 n4 (lay xs)
  places : w.ownsRow base 3 1 v5 xs.length (offs 0 xs)
  low : ∀ ad, a4 = some ad → ad.block < w.heap.size
def Off2 (v3 : Value) (a4 : Option Addr) (v5 : Value) (i : Nat) : Prop := v3.ownBlock ≠ some i ∧ (∀ ad, a4 = some ad → ad.block ≠ i) ∧ v5.ownBlock ≠ some i
theorem St2.off {w : World} {base i n4 : Nat} {v3 v5 : Value} {a4 : Option Addr} {xs : List Itm} (h : St2 w base v3 a4 n4 v5 xs) (hi : w.heap.size ≤ i) : Off2 v3 a4 v5 i :=
  ⟨fun e => by have := (World.ownsRow.lt h.items i e).2; omega, fun ad e => by have := h.low ad e; omega, fun e => by have := (World.ownsRow.lt h.places i e).2; omega⟩
theorem St2.keep {w w' : World} {base n4 : Nat} {v3 v5 : Value} {a4 : Option Addr} {xs : List Itm} {r : Option Nat} (h : St2 w base v3 a4 n4 v5 xs) (hg : w.grownBy w' r) (hr : ∀ i, r = some i → Off2 v3 a4 v5 i) : St2 w' base v3 a4 n4 v5 xs :=
  ⟨row_keep h.items hg (fun i e => (hr i e).1), h.bytes.grown hg (fun ad e e2 => (hr _ e2).2.1 ad e rfl), row_keep h.places hg (fun i e => (hr i e).2.2), fun ad e => Nat.lt_of_lt_of_le (h.low ad e) hg.size⟩
theorem St2.below {w w' : World} {base n4 : Nat} {v3 v5 : Value} {a4 : Option Addr} {xs : List Itm} (h : St2 w base v3 a4 n4 v5 xs) (hb : Below w.heap.size w w') : St2 w' base v3 a4 n4 v5 xs := h.keep (below_grown hb) (fun i e => by cases e)
/-- What is left where a byte has been added to the bytes. -/
theorem push_left {w w' : World} {base n4 c4 g6 c6 : Nat} {v3 v5 : Value} {a4 : Option Addr} {xs : List Itm} {o : Obj} {c : BitVec 8} (h : St w base v3 (.slice a4 n4 c4) v5 xs) (ho : Own w' base (.slice (some ⟨g6, 0, none⟩) ((lay xs).length + 1) c6) (lay xs ++ [c]))
    (hg : (Value.slice a4 n4 c4).ownBlock = some g6 ∧ (w.alloc o).grownBy w' (some g6) ∨ (w.alloc o).heap.size ≤ g6 ∧ (w.alloc o).grownBy w' none) (hn : n4 = (lay xs).length) (hl : (lay xs).length ≤ 140737488355328) : St2 w' base v3 a4 n4 v5 xs := by
  have hb := (Below.refl w.heap.size w).alloc (Nat.le_refl _) o
  have h1 := h.below hb
  have low : ∀ ad, a4 = some ad → ad.block < w.heap.size := fun ad e => by
    have := (blk h.bytes ad.block (by rw [e]; rfl)).2
    exact this
  rcases hg with ⟨e, k⟩ | ⟨e, k⟩
  · refine ⟨row_keep h1.items k (fun i e2 => by cases e2; exact row_types h1.bytes h1.items (by decide) g6 e), ?_, row_keep h1.places k (fun i e2 => by cases e2; exact row_types h1.bytes h1.places (by decide) g6 e), fun ad e2 => Nat.lt_of_lt_of_le (low ad e2) (Nat.le_trans hb.size k.size)⟩
    have hc := Got.rd (ho.cut (lay xs).length (by omega)) (by rw [List.length_take]; omega)
    rw [List.take_left] at hc
    rcases h1.bytes.2 with ⟨q1, _⟩ | ⟨gg, cp, cur, q1, _⟩
    · rw [q1] at e; cases e
    · simp only [Value.slice.injEq] at q1
      obtain ⟨rfl, _, _⟩ := q1
      have : gg = g6 := Option.some.inj e
      subst this
      rw [hn]; exact hc
  · refine ⟨row_keep h1.items k (fun i e2 => by cases e2), (Got.rd h1.bytes hl).grown k (fun ad _ e2 => by cases e2), row_keep h1.places k (fun i e2 => by cases e2), fun ad e2 => Nat.lt_of_lt_of_le (low ad e2) (Nat.le_trans hb.size k.size)⟩
theorem push_below {w0 w w' : World} {g6 : Nat} {v : Value} (hb : Below w0.heap.size w0 w) (hg : v.ownBlock = some g6 ∧ w.grownBy w' (some g6) ∨ w.heap.size ≤ g6 ∧ w.grownBy w' none) (hv : ∀ k, v.ownBlock = some k → w0.heap.size ≤ k) (hs : w0.heap.size ≤ w.heap.size) : Below w0.heap.size w0 w' := by
  rcases hg with ⟨e, k⟩ | ⟨e, k⟩
  · exact hb.grown k hs (fun i e2 => by cases e2; exact hv _ e)
  · exact hb.grown k hs (fun i e2 => by cases e2)
/-- The cells of the item i, and where it begins. -/
theorem St.at {w : World} {base n c m d : Nat} {a5 a3 : Option Addr} {v4 : Value} {xs : List Itm} (h : St w base (.slice a3 n c) v4 (.slice a5 m d) xs) (i : Nat) (hi : i < xs.length) : n = xs.length ∧ m = xs.length ∧ ∃ g3 g5, a3 = some ⟨g3, 0, none⟩ ∧ a5 = some ⟨g5, 0, none⟩ ∧
    w.cell? ⟨g3, i * 4, none⟩ = some (.int .i64 (itAt xs i).kind) ∧ w.cell? ⟨g3, i * 4 + 1, none⟩ = some (.int .i64 (itAt xs i).v) ∧ w.cell? ⟨g3, i * 4 + 2, none⟩ = some (.int .i64 (itAt xs i).n) ∧ w.cell? ⟨g3, i * 4 + 3, none⟩ = some (.string (itAt xs i).s) ∧ w.cell? ⟨g5, i, none⟩ = some (.int .i64 ((lay (xs.take i)).length : Int)) := by
  have hi1 := h.items
  have hp1 := h.places
  rcases hi1.2 with ⟨e1, e2⟩ | ⟨g3, cap, cur, e1, _⟩
  · omega
  · rcases hp1.2 with ⟨e3, e4⟩ | ⟨g5, cap', cur', e3, _⟩
    · omega
    · simp only [Value.slice.injEq] at e1 e3
      obtain ⟨rfl, rfl, rfl⟩ := e1
      obtain ⟨rfl, rfl, rfl⟩ := e3
      obtain ⟨q0, q1, q2, q3⟩ := icells_get xs i hi
      refine ⟨rfl, rfl, g3, g5, rfl, rfl, ?_, ?_, ?_, ?_, ?_⟩
      · rw [World.ownsRow.cellAt hi1 (i * 4) (by omega)]; exact q0
      · rw [World.ownsRow.cellAt hi1 (i * 4 + 1) (by omega)]; exact q1
      · rw [World.ownsRow.cellAt hi1 (i * 4 + 2) (by omega)]; exact q2
      · rw [World.ownsRow.cellAt hi1 (i * 4 + 3) (by omega)]; exact q3
      · rw [World.ownsRow.cellAt hp1 i (by omega), offs_get xs 0 i hi, Nat.zero_add]
theorem St2.at {w : World} {base n c m d n4 : Nat} {a5 a3 a4 : Option Addr} {xs : List Itm} (h : St2 w base (.slice a3 n c) a4 n4 (.slice a5 m d) xs) (i : Nat) (hi : i < xs.length) : n = xs.length ∧ m = xs.length ∧ ∃ g3 g5, a3 = some ⟨g3, 0, none⟩ ∧ a5 = some ⟨g5, 0, none⟩ ∧
    w.cell? ⟨g3, i * 4, none⟩ = some (.int .i64 (itAt xs i).kind) ∧ w.cell? ⟨g3, i * 4 + 1, none⟩ = some (.int .i64 (itAt xs i).v) ∧ w.cell? ⟨g3, i * 4 + 2, none⟩ = some (.int .i64 (itAt xs i).n) ∧ w.cell? ⟨g3, i * 4 + 3, none⟩ = some (.string (itAt xs i).s) ∧ w.cell? ⟨g5, i, none⟩ = some (.int .i64 ((lay (xs.take i)).length : Int)) := by
  have hi1 := h.items
  have hp1 := h.places
  rcases hi1.2 with ⟨e1, e2⟩ | ⟨g3, cap, cur, e1, _⟩
  · omega
  · rcases hp1.2 with ⟨e3, e4⟩ | ⟨g5, cap', cur', e3, _⟩
    · omega
    · simp only [Value.slice.injEq] at e1 e3
      obtain ⟨rfl, rfl, rfl⟩ := e1
      obtain ⟨rfl, rfl, rfl⟩ := e3
      obtain ⟨q0, q1, q2, q3⟩ := icells_get xs i hi
      refine ⟨rfl, rfl, g3, g5, rfl, rfl, ?_, ?_, ?_, ?_, ?_⟩
      · rw [World.ownsRow.cellAt hi1 (i * 4) (by omega)]; exact q0
      · rw [World.ownsRow.cellAt hi1 (i * 4 + 1) (by omega)]; exact q1
      · rw [World.ownsRow.cellAt hi1 (i * 4 + 2) (by omega)]; exact q2
      · rw [World.ownsRow.cellAt hi1 (i * 4 + 3) (by omega)]; exact q3
      · rw [World.ownsRow.cellAt hp1 i (by omega), offs_get xs 0 i hi, Nat.zero_add]
theorem row_named {w : World} {base size n : Nat} {e : TypeId} {v : Value} {xs : List Value} (h : w.ownsRow base e size v n xs) : ∃ a k c, v = .slice a k c ∧ Hid (k = n) := by
  rcases h.2 with ⟨e1, e2⟩ | ⟨g, cap, cur, e1, _⟩
  · exact ⟨_, _, _, e1, e2.symm⟩
  · exact ⟨_, _, _, e1, rfl⟩
theorem lay_len (xs : List Itm) (T : Nat) (h : ∀ x, x ∈ xs → x.ok ∧ x.v ≤ 9223372036854775807) (ht : (xs.map fun x => 1 + x.s.size).sum ≤ T) (hT : T ≤ 2147483648) : (lay xs).length ≤ 10 * T := by
  induction xs generalizing T with
  | nil => simp [lay]
  | cons x r ih =>
    rw [show lay (x :: r) = layB x ++ lay r by simp [lay], List.length_append]
    simp only [List.map_cons, List.sum_cons] at ht
    have h1 := ih (T - (1 + x.s.size)) (fun y hy => h y (List.mem_cons_of_mem _ hy)) (by omega) (by omega)
    have hx := h x List.mem_cons_self
    have h2 : (layB x).length ≤ 9 + x.s.size := by
      unfold layB
      split
      · have := (put_nine x.v.toNat (by omega)).2; omega
      · split
        · rename_i h0 h1
          rw [length_fixed]
          have : ¬ (x.n < 1 ∨ 8 < x.n) := fun hh => hx.1 (.inr (.inr (.inr ⟨h1, hh⟩)))
          omega
        · split
          · rw [length_txtB]; omega
          · rw [List.length_append, length_txtB]
            have := (put_nine x.s.size (by omega)).2
            omega
    omega
end Go.Proofs.Ytpmhcehheibjhaa.Curs
