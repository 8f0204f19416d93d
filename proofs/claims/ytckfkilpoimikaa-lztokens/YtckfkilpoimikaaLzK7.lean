/-
  Tokens of the call's own with one more behind them; how long answers are.
-/
import Derived.Test.YtckfkilpoimikaaLzK6
import Derived.Test.YtckfkilpoimikaaLzK5
namespace Go.Proofs.Ytckfkilpoimikaa.Lz
open Go.ChangeShapes Go.WideShapes Go.ChangeAt Go.RowKit
open Go.Proofs.Ytckfkilpoimikaa.Base Go.Proofs.Ytckfkilpoimikaa.Nums
set_option linter.unusedVariables false
theorem put_len (t : Tok) (h1 : t.lit.length ≤ 65536) (h2 : t.len ≤ 259) (h3 : t.dist ≤ 32768) : (putTok t).length ≤ t.lit.length + 27 := by
  unfold putTok
  have q1 := (put_nine t.lit.length (by omega)).2
  rw [List.length_append, List.length_append]
  split
  · simp; omega
  · have q2 := (put_nine (t.len - 4).toNat (by omega)).2
    have q3 := (put_nine t.dist.toNat (by omega)).2
    rw [List.length_append]; omega
theorem expanded_len (ts : List Tok) : (expanded ts).1.length ≤ 65536 := by
  unfold expanded
  split
  · rename_i h
    have hm : measure 0 ts = ((measure 0 ts).1, 0) := Prod.ext rfl h
    obtain ⟨h1, h2, _⟩ := measure_ok ts 0 _ [] rfl (by omega) hm
    simp only
    omega
  · simp
theorem written_len (ts : List Tok) : (written ts).1.length ≤ 2000000 := by
  unfold written
  split
  · rename_i h
    have hm : measure 0 ts = ((measure 0 ts).1, 0) := Prod.ext rfl h
    obtain ⟨h1, h2, h3⟩ := measure_ok ts 0 _ [] rfl (by omega) hm
    simp only
    cases hl : ts.length with
    | zero => rw [List.length_eq_zero_iff.1 hl]; simp [bytesOf]
    | succ k =>
      obtain ⟨⟨_, _, q1, q2, _⟩, q3, q4⟩ := h3 k (by omega)
      have e : ts = ts.take k ++ [tokAt ts k] := by
        rw [← take_tok ts k (by omega), List.take_of_length_le (by omega)]
      have hp := put_len (tokAt ts k) (by omega) q1 q2
      rw [e, bytesOf_append, List.length_append, show bytesOf [tokAt ts k] = putTok (tokAt ts k) by simp [bytesOf]]
      omega
  · simp
/-- Tokens that lie in a block read as such. -/
theorem trd_gen {w : World} {g n : Nat} {ps : List (Value × Tok)} (hg : g < w.heap.size) (hlen : ps.length = n) (hn : n ≤ 140737488355328) (hcell : ∀ j u, j < n * 3 → (cellsOf ps)[j]? = some u → w.cell? ⟨g, j, none⟩ = some u)
    (hl : ∀ p, p ∈ ps → ∃ base, Own w base p.1 p.2.lit) (hm : ∀ p, p ∈ ps → p.2.lit.length ≤ 140737488355328) : TRd w (some ⟨g, 0, none⟩) n (ps.map (·.2)) := by
  refine ⟨by rw [List.length_map]; exact hlen, hn, fun hp => ⟨g, 0, rfl, hg, fun i hi => ?_⟩⟩
  have hi' : i < ps.length := by omega
  obtain ⟨c0, c1, c2⟩ := cellsOf_get ps i hi'
  have hmem : ps[i] ∈ ps := List.getElem_mem hi'
  obtain ⟨base, ho⟩ := hl _ hmem
  obtain ⟨la, ln, lc, hv, hln⟩ := own_named ho
  have ht : tokAt (ps.map (·.2)) i = (ps[i]).2 := by
    unfold tokAt
    rw [List.getD_eq_getElem?_getD, List.getElem?_map, List.getElem?_eq_getElem hi']; rfl
  rw [ht]
  have ho' := ho
  rw [hv] at ho' c0
  refine ⟨_, _, _, ?_, ?_, ?_, Got.rd ho' (hm _ hmem), (own_caps ho').1, (own_caps ho').2, Got.nil ho'⟩
  · rw [Nat.zero_add]; exact hcell (i * 3) _ (by omega) c0
  · rw [Nat.zero_add]; exact hcell (i * 3 + 1) _ (by omega) c1
  · rw [Nat.zero_add]; exact hcell (i * 3 + 2) _ (by omega) c2
theorem KToks.trd {w : World} {base n c : Nat} {a : Option Addr} {ps : List (Value × Tok)} (h : KToks w base (.slice a n c) ps) (hn : ps.length ≤ 140737488355328) (hm : ∀ p, p ∈ ps → p.2.lit.length ≤ 140737488355328) : TRd w a n (ps.map (·.2)) := by
  rcases h.row.2 with ⟨e1, e2⟩ | ⟨g, cap, cur, e1, _⟩
  · simp only [Value.slice.injEq] at e1
    obtain ⟨rfl, rfl, rfl⟩ := e1
    have : ps = [] := List.length_eq_zero_iff.1 e2
    subst this
    exact ⟨rfl, by omega, fun h => absurd h (by omega)⟩
  · simp only [Value.slice.injEq] at e1
    obtain ⟨rfl, hn', rfl⟩ := e1
    subst hn'
    exact trd_gen (World.ownsRow.lt h.row g rfl).2 rfl hn (fun j u hj hu => by rw [World.ownsRow.cellAt h.row j hj]; exact hu) (fun p hp => ⟨base, (h.lits p hp).own⟩) hm
/-- .. with one more token behind them. -/
def tailC : List Value := [.slice none 0 0, .int .i64 (-77), .int .i64 0]
structure LToks (w : World) (base g n c : Nat) (ps : List (Value × Tok)) : Prop where
  row : w.ownsRow base 32 3 (.slice (some ⟨g, 0, none⟩) (n + 1) c) (n + 1) (cellsOf ps ++ tailC)
  len : ps.length = n
  lits : ∀ p, p ∈ ps → Marked w base p
theorem LToks.lt {w : World} {base g n c : Nat} {ps : List (Value × Tok)} (h : LToks w base g n c ps) : base ≤ g ∧ g < w.heap.size := World.ownsRow.lt h.row g rfl
theorem LToks.keep {w w' : World} {base g n c : Nat} {ps : List (Value × Tok)} {r : Option Nat} (h : LToks w base g n c ps) (hg : w.grownBy w' r) (h1 : r ≠ some g) (h2 : ∀ p, p ∈ ps → ∀ i, p.1.ownBlock = some i → r ≠ some i) : LToks w' base g n c ps :=
  ⟨World.ownsRow.kept (row := r) h.row hg (.inr (fun e => h1 (by rw [← e]; rfl))), h.len, fun p hp => (h.lits p hp).keep hg (h2 p hp)⟩
theorem LToks.below {w w' : World} {base g n c : Nat} {ps : List (Value × Tok)} (h : LToks w base g n c ps) (hb : Below w.heap.size w w') : LToks w' base g n c ps := h.keep (below_grown hb) (by simp) (fun _ _ _ _ => by simp)
/-- The blocks of such tokens lie below m. -/
theorem LToks.blocks {w : World} {base g n c : Nat} {ps : List (Value × Tok)} (h : LToks w base g n c ps) : ∀ p, p ∈ ps → ∀ i, p.1.ownBlock = some i → base ≤ i ∧ i < w.heap.size := fun p hp i e => blk (h.lits p hp).own i e
theorem LToks.cell {w : World} {base g n c : Nat} {ps : List (Value × Tok)} (h : LToks w base g n c ps) (j : Nat) (u : Value) (hu : (cellsOf ps)[j]? = some u) : w.cell? ⟨g, j, none⟩ = some u := by
  have hj : j < (cellsOf ps).length := (List.getElem?_eq_some_iff.1 hu).1
  rw [World.ownsRow.cellAt h.row j (by rw [length_cellsOf, h.len] at hj; omega), List.getElem?_append_left hj, hu]
theorem LToks.last {w : World} {base g n c : Nat} {ps : List (Value × Tok)} (h : LToks w base g n c ps) : w.cell? ⟨g, n * 3, none⟩ = some (.slice none 0 0) ∧ w.cell? ⟨g, n * 3 + 1, none⟩ = some (.int .i64 (-77)) ∧ w.cell? ⟨g, n * 3 + 2, none⟩ = some (.int .i64 0) := by
  have e : (cellsOf ps).length = n * 3 := by rw [length_cellsOf, h.len]
  refine ⟨?_, ?_, ?_⟩
  · rw [World.ownsRow.cellAt h.row _ (by omega), List.getElem?_append_right (by omega), e, Nat.sub_self]; rfl
  · rw [World.ownsRow.cellAt h.row _ (by omega), List.getElem?_append_right (by omega), e, Nat.add_sub_cancel_left]; rfl
  · rw [World.ownsRow.cellAt h.row _ (by omega), List.getElem?_append_right (by omega), e, Nat.add_sub_cancel_left]; rfl
theorem LToks.frozen {w : World} {base g n c : Nat} {ps : List (Value × Tok)} (h : LToks w base g n c ps) (j : Nat) : w.frozen? ⟨g, j, none⟩ = false := World.ownsRow.frozenAt h.row j
theorem LToks.cap {w : World} {base g n c : Nat} {ps : List (Value × Tok)} (h : LToks w base g n c ps) : n + 1 ≤ c := by
  rcases h.row.2 with ⟨e1, _⟩ | ⟨g', cap, cur, e1, _, _, e2, _⟩
  · cases e1
  · simp only [Value.slice.injEq] at e1; omega
theorem LToks.trd {w : World} {base g n c : Nat} {ps : List (Value × Tok)} (h : LToks w base g n c ps) (hn : n ≤ 140737488355328) (hm : ∀ p, p ∈ ps → p.2.lit.length ≤ 140737488355328) : TRd w (some ⟨g, 0, none⟩) n (ps.map (·.2)) :=
  trd_gen h.lt.2 h.len hn (fun j u _ hu => h.cell j u hu) (fun p hp => ⟨base, (h.lits p hp).own⟩) hm
/-- A token is put in another's place. -/
theorem cellsOf_set (ps : List (Value × Tok)) : ∀ i (p : Value × Tok), (((cellsOf ps).set (i * 3) p.1).set (i * 3 + 1) (.int .i64 p.2.dist)).set (i * 3 + 2) (.int .i64 p.2.len) = cellsOf (ps.set i p) := by
  induction ps with
  | nil => intro i p; rfl
  | cons q r ih =>
    intro i p
    have e : cellsOf (q :: r) = q.1 :: .int .i64 q.2.dist :: .int .i64 q.2.len :: cellsOf r := rfl
    cases i with
    | zero => rfl
    | succ i =>
      rw [e, show (i + 1) * 3 = i * 3 + 1 + 1 + 1 by omega, show i * 3 + 1 + 1 + 1 + 1 = (i * 3 + 1) + 1 + 1 + 1 by omega, show i * 3 + 1 + 1 + 1 + 2 = (i * 3 + 2) + 1 + 1 + 1 by omega]
      simp only [List.set_cons_succ]
      rw [ih i p]
      rfl
theorem LToks.put {w : World} {base g n c : Nat} {ps : List (Value × Tok)} (h : LToks w base g n c ps) (i : Nat) (hi : i < n) (p : Value × Tok) (hp : Marked w base p) (hpo : ∀ k, p.1.ownBlock = some k → k ≠ g) (hpl : ∀ p, p ∈ ps → ∀ k, p.1.ownBlock = some k → k ≠ g) :
    LToks (((w.setCell ⟨g, i * 3, none⟩ p.1).setCell ⟨g, i * 3 + 1, none⟩ (.int .i64 p.2.dist)).setCell ⟨g, i * 3 + 2, none⟩ (.int .i64 p.2.len)) base g n c (ps.set i p) := by
  have h1 := World.ownsRow.stored h.row (i * 3) p.1
  have h2 := World.ownsRow.stored h1.1 (i * 3 + 1) (.int .i64 p.2.dist)
  have h3 := World.ownsRow.stored h2.1 (i * 3 + 2) (.int .i64 p.2.len)
  have hg := grown_trans (grown_trans h1.2 h2.2) h3.2
  have e : (cellsOf ps).length = n * 3 := by rw [length_cellsOf, h.len]
  refine ⟨?_, by rw [List.length_set]; exact h.len, fun q hq => ?_⟩
  · have hr := h3.1
    rw [List.set_append_left _ _ (by omega), List.set_append_left _ _ (by rw [List.length_set]; omega), List.set_append_left _ _ (by rw [List.length_set, List.length_set]; omega), cellsOf_set] at hr
    exact hr
  · rcases List.mem_or_eq_of_mem_set hq with hq | rfl
    · exact (h.lits q hq).keep hg (fun k e1 e2 => hpl q hq k e1 (Option.some.inj e2).symm)
    · exact hp.keep hg (fun k e1 e2 => hpo k e1 (Option.some.inj e2).symm)
end Go.Proofs.Ytckfkilpoimikaa.Lz
