/-
  Lengths, at any counts and limit.
-/
import Derived.Test.YthdblnfohbldcaaGreatHuffS4
namespace Go.Proofs.YthdblnfohbldcaaGreat.Pm
open Go.ChangeShapes Go.WideShapes Go.ChangeAt Go.RowKit
open Go.Proofs.YthdblnfohbldcaaGreat.Base
set_option linter.unusedVariables false
/-- The symbols of counts, in order. -/
def orderOf (cs : List Int) : List Nat := (sorted cs (cs.length - 1) (symsTo cs cs.length)).map (·.val)
theorem orderOf_ok (cs : List Int) : Ordered cs (orderOf cs) := by
  by_cases h : cs.length = 0
  · have e : symsTo cs cs.length = [] := by rw [h]; rfl
    have e2 : sorted cs (cs.length - 1) [] = [] := by unfold sorted; simp
    unfold Ordered orderOf
    rw [e, e2]
    exact ⟨List.Perm.refl _, List.Pairwise.nil⟩
  · exact sorted_ok cs (cs.length - 1) (by omega) cs.length (Nat.le_refl _) (symsTo_nodup cs _)
def takenBy (cs : List Int) (lim : Nat) : List Pk := takenOf (thingsOf cs (orderOf cs)) lim
/-- The lengths that are taken. -/
def lensBy (cs : List Int) (lim : Nat) : List Int := (List.range cs.length).map fun s => ((tally (takenBy cs lim) s : Nat) : Int)
/-- What Lengths answers. -/
def lengthsd (cs : List Int) (lim : Int) : List Int × Int :=
  if 256 < cs.length then ([], 2)
  else if lim < 1 ∨ 15 < lim ∨ Huff.allIn 1099511627776 cs = false then ([], 3)
  else if 2 ^ lim.toNat < (orderOf cs).length then ([], 41)
  else (lensBy cs lim.toNat, 0)
/-- The first k of what is taken are counted; of the next one the first i symbols. -/
def lensAt (cs : List Int) (T : List Pk) (k i : Nat) : List Int := (List.range cs.length).map fun s => (((if s < i then tally (T.take (k + 1)) s else tally (T.take k) s) : Nat) : Int)
theorem lensAt_len (cs : List Int) (T : List Pk) (k i : Nat) : (lensAt cs T k i).length = cs.length := by simp [lensAt]
theorem lensAt_zero (cs : List Int) (T : List Pk) : lensAt cs T 0 0 = List.replicate cs.length 0 := by
  unfold lensAt
  rw [List.map_congr_left (g := fun _ => (0 : Int)) (fun s _ => by simp [tally]), List.map_const', List.length_range]
theorem lensAt_next (cs : List Int) (T : List Pk) (k : Nat) : lensAt cs T k cs.length = lensAt cs T (k + 1) 0 := by
  unfold lensAt
  apply List.map_congr_left
  intro s hs
  rw [List.mem_range] at hs
  rw [if_pos hs, if_neg (by omega)]
theorem lensAt_all (cs : List Int) (T : List Pk) : lensAt cs T T.length 0 = (List.range cs.length).map fun s => ((tally T s : Nat) : Int) := by
  unfold lensAt
  apply List.map_congr_left
  intro s hs
  rw [if_neg (by omega), List.take_length]
theorem lensAt_get (cs : List Int) (T : List Pk) (k i : Nat) (h : i < cs.length) : (lensAt cs T k i).getD i 0 = ((tally (T.take k) i : Nat) : Int) := by
  unfold lensAt
  rw [List.getD_eq_getElem?_getD, List.getElem?_map, List.getElem?_range h]
  simp
theorem lensAt_set (cs : List Int) (T : List Pk) (k i : Nat) (h : i < cs.length) : (lensAt cs T k i).set i ((tally (T.take (k + 1)) i : Nat) : Int) = lensAt cs T k (i + 1) := by
  apply List.ext_getElem?
  intro j
  rw [List.getElem?_set, lensAt_len]
  unfold lensAt
  rw [List.getElem?_map, List.getElem?_map]
  by_cases hj : j < cs.length
  · rw [List.getElem?_range hj]
    by_cases e : i = j
    · subst e; simp [h]
    · simp [e]
      by_cases h2 : j < i
      · rw [if_pos h2, if_pos (by omega)]
      · rw [if_neg h2, if_neg (by omega)]
  · rw [List.getElem?_eq_none (by rw [List.length_range]; omega)]
    simp; omega
theorem range_apart {K : IntKind} {w : World} {b off g : Nat} {p : Pk} {ps : List Pk} {xs : List Int} (hK : K = .u8) (h : w.rangeAt b off (lcells K (p :: ps))) (hp : p.2.length = 256) (hr : RowI 3 w g xs) : b ≠ g := by
  intro e
  subst e hK
  have h1 := h 1 _ (by rw [lcells_cons, List.getElem?_append_left (by rw [pcells_len _ hp]; omega)]; exact pcells_t .u8 p 0 (by omega))
  unfold RowI at hr
  rw [cell_of_row _ _ _ _ _ _ hr, List.getElem?_toArray, ivals, List.getElem?_map] at h1
  cases hx : xs[off + 1]? with
  | none => rw [hx] at h1; cases h1
  | some x => rw [hx] at h1; simp [VI] at h1
theorem RdP.keepI {w w' : World} {a : Option Addr} {n g : Nat} {T : List Pk} {xs : List Int} (h : RdP .u8 w a n T) (hr : RowI 3 w g xs) (hg : w.grownBy w' (some g)) : RdP .u8 w' a n T := by
  obtain ⟨h1, h2, h3⟩ := h
  refine ⟨h1, h2, fun hp => ?_⟩
  obtain ⟨b, off, rfl, hb, hc⟩ := h3 hp
  refine ⟨b, off, rfl, Nat.lt_of_lt_of_le hb hg.size, range_grown hc hg (fun e => ?_)⟩
  cases T with
  | nil => simp at h1; omega
  | cons p ps => exact range_apart rfl hc (h2 p (by simp)) hr (Option.some.inj e).symm
theorem lengthsd_long {cs : List Int} {lim : Int} (h : 256 < cs.length) : lengthsd cs lim = ([], 2) := by unfold lengthsd; rw [if_pos h]
theorem lengthsd_arg {cs : List Int} {lim : Int} (h : ¬ 256 < cs.length) (h2 : lim < 1 ∨ 15 < lim ∨ Huff.allIn 1099511627776 cs = false) : lengthsd cs lim = ([], 3) := by unfold lengthsd; rw [if_neg h, if_pos h2]
theorem lengthsd_limit {cs : List Int} {lim : Nat} (h : ¬ 256 < cs.length) (h1 : 1 ≤ lim) (h2 : lim ≤ 15) (h3 : Huff.allIn 1099511627776 cs = true) (h4 : 2 ^ lim < (orderOf cs).length) : lengthsd cs (lim : Int) = ([], 41) := by
  unfold lengthsd; rw [if_neg h, if_neg (by rw [h3]; simp; omega), Int.toNat_natCast, if_pos h4]
theorem lengthsd_ok {cs : List Int} {lim : Nat} (h : ¬ 256 < cs.length) (h1 : 1 ≤ lim) (h2 : lim ≤ 15) (h3 : Huff.allIn 1099511627776 cs = true) (h4 : ¬ 2 ^ lim < (orderOf cs).length) : lengthsd cs (lim : Int) = (lensBy cs lim, 0) := by
  unfold lengthsd; rw [if_neg h, if_neg (by rw [h3]; simp; omega), Int.toNat_natCast, if_neg h4]
theorem ownI_none (w : World) (base : Nat) : OwnI w base (.slice none 0 0) [] := ⟨by simp [ivals], .inl ⟨rfl, rfl⟩⟩
end Go.Proofs.YthdblnfohbldcaaGreat.Pm
