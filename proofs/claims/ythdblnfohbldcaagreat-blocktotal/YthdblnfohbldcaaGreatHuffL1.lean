/-
  The statements' helpers over counts: bent, used, limited, kraft.
-/
import Derived.Test.YthdblnfohbldcaaGreatHuffS6
namespace Go.Proofs.YthdblnfohbldcaaGreat.Pm
open Go.ChangeShapes Go.WideShapes Go.ChangeAt Go.RowKit
open Go.Proofs.YthdblnfohbldcaaGreat.Base
set_option linter.unusedVariables false
/-- A count that may be. -/
def bend (c : Int) : Int := if c.tmod 1073741824 < 0 then -(c.tmod 1073741824) else c.tmod 1073741824
theorem tmod_in (c : Int) : -1073741824 < c.tmod 1073741824 ∧ c.tmod 1073741824 < 1073741824 := by
  have h1 := Int.tmod_lt_of_pos c (b := 1073741824) (by decide)
  have h2 := Int.tmod_lt_of_pos (-c) (b := 1073741824) (by decide)
  rw [Int.neg_tmod] at h2
  exact ⟨by omega, h1⟩
theorem bend_in (c : Int) : 0 ≤ bend c ∧ bend c ≤ 1073741823 := by
  have := tmod_in c
  unfold bend
  split <;> omega
def bentOf (xs : List Int) : List Int := (xs.take 256).map bend
theorem bentOf_len (xs : List Int) : (bentOf xs).length = min 256 xs.length := by simp [bentOf]
theorem bentOf_in (xs : List Int) : Huff.allIn 1099511627776 (bentOf xs) = true := by
  unfold Huff.allIn bentOf
  rw [List.all_eq_true]
  intro x hx
  obtain ⟨c, _, rfl⟩ := List.mem_map.1 hx
  have := bend_in c
  rw [decide_eq_true_iff]; omega
def bentTo (xs : List Int) (k : Nat) : List Int := (xs.take k).map bend
theorem bentTo_add (xs : List Int) (k : Nat) (h : k < xs.length) : bentTo xs (k + 1) = bentTo xs k ++ [bend (xs.getD k 0)] := by
  unfold bentTo
  have e : xs.getD k 0 = xs[k] := by rw [List.getD_eq_getElem?_getD, List.getElem?_eq_getElem h]; rfl
  rw [List.take_succ_eq_append_getElem h, List.map_append, e]; rfl
theorem infoL : (Tryz.prog.info? 2).map (fun i => (i.zero, i.size, i.bytes)) = some (some (.int .i64 0), 1, 8) := by kernel_rfl
/-- An own row of counts. -/
def OwnJ (w : World) (base : Nat) (v : Value) (xs : List Int) : Prop := w.ownsRow base 2 1 v xs.length (ivals xs)
theorem OwnJ.rd {w : World} {base : Nat} {a : Option Addr} {n c : Nat} {xs : List Int} (h : OwnJ w base (.slice a n c) xs) (hl : xs.length ≤ 17592186044416) : RdI w a n xs ∧ (a = none → n = 0) := by
  rcases h.2 with ⟨h1, h2⟩ | ⟨g, cap, cur, h1, h2, h3, h4, h5, h6, h7⟩
  · simp only [Value.slice.injEq] at h1
    obtain ⟨rfl, rfl, rfl⟩ := h1
    exact ⟨⟨h2, by omega, fun h => absurd h (by omega)⟩, fun _ => rfl⟩
  · have hc := World.ownsRow.cells h (g := g) (by rw [h1]; rfl)
    have hlt := (World.ownsRow.lt h g (by rw [h1]; rfl)).2
    simp only [Value.slice.injEq] at h1
    obtain ⟨rfl, rfl, rfl⟩ := h1
    refine ⟨⟨rfl, hl, fun hp => ⟨g, 0, rfl, hlt, fun i hi => ?_⟩⟩, fun h => by cases h⟩
    have := hc i _ (getD_ivals xs i hi)
    rwa [Addr.add_mid] at this
theorem own_addJ {w : World} {base : Nat} {v : Value} {xs : List Int} {x : Int} (h : w.ownsRow base 2 1 v (xs.length + 1) (ivals xs ++ [.int .i64 x])) : OwnJ w base v (xs ++ [x]) := by
  unfold OwnJ
  rw [List.length_append]
  have e : ivals (xs ++ [x]) = ivals xs ++ [.int .i64 x] := by simp [ivals, VI]
  rw [e]
  exact h
theorem ownJ_shape {w : World} {base : Nat} {v : Value} {xs : List Int} (h : OwnJ w base v xs) : ∃ a c, v = .slice a xs.length c := by
  rcases h.2 with ⟨h1, h2⟩ | ⟨g, c, cur, h1, _⟩
  · exact ⟨none, 0, by rw [h1, h2]⟩
  · exact ⟨_, c, h1⟩
theorem pow_i (l P : Nat) (h : 2 ^ l = P) (hb : P ≤ 4294967296) : wrap64 ((2 : Int) ^ l) = (P : Int) := by
  have : (2 : Int) ^ l = (P : Int) := by rw [← h]; simp
  rw [this]; unfold wrap64; omega
/-- The share of a length, in parts of 1 / 2^15. -/
def share (x : Int) : Nat := if 0 < x ∧ x ≤ 15 then 2 ^ (15 - x.toNat) else 0
def kraftTo (xs : List Int) (k : Nat) : Nat := ((xs.take k).map share).sum
theorem kraftTo_add (xs : List Int) (k : Nat) (h : k < xs.length) : kraftTo xs (k + 1) = kraftTo xs k + share (xs.getD k 0) := by
  unfold kraftTo
  have e : xs.getD k 0 = xs[k] := by rw [List.getD_eq_getElem?_getD, List.getElem?_eq_getElem h]; rfl
  rw [List.take_succ_eq_append_getElem h, List.map_append, List.sum_append, e]; simp
theorem share_le (x : Int) : share x ≤ 16384 := by
  unfold share
  split
  · have : 2 ^ (15 - x.toNat) ≤ 2 ^ 14 := Nat.pow_le_pow_right (by decide) (by omega)
    omega
  · omega
theorem kraftTo_le (xs : List Int) : ∀ k, k ≤ xs.length → kraftTo xs k ≤ k * 16384
  | 0, _ => by simp [kraftTo]
  | k + 1, h => by
    rw [kraftTo_add xs k (by omega)]
    have := kraftTo_le xs k (by omega)
    have := share_le (xs.getD k 0)
    omega
end Go.Proofs.YthdblnfohbldcaaGreat.Pm
