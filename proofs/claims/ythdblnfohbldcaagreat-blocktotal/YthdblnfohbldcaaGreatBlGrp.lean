/-
  Entries in groups: what a builder has gathered, and what a reader makes of it.
-/
import Derived.Test.YthdblnfohbldcaaGreatBlNxM
import Derived.Test.YthdblnfohbldcaaGreatBlAdd
namespace Go.Proofs.YthdblnfohbldcaaGreat.Bl
open Go.Proofs.YthdblnfohbldcaaGreat.Base Go.Proofs.YthdblnfohbldcaaGreat.Nums Go.Proofs.YthdblnfohbldcaaGreat.Curs
open Go.Proofs.YthdblnfohbldcaaGreat.Fa (St)
set_option linter.unusedVariables false
abbrev En := ByteArray × ByteArray
def dE : En := (⟨#[]⟩, ⟨#[]⟩)
/-- What the key of the place i has in common with the one ahead of it. -/
def cmAt (r : Nat) (L : List En) (i : Nat) : Nat := if i % r = 0 then 0 else common (txt (L.getD (i - 1) dE).1) (txt (L.getD i dE).1)
def enc1 (r : Nat) (L : List En) (i : Nat) : List (BitVec 8) := entL (cmAt r L i) (L.getD i dE).1 (L.getD i dE).2
/-- The bytes of the first i entries. -/
def encA (r : Nat) (L : List En) : Nat → List (BitVec 8)
  | 0 => []
  | i + 1 => encA r L i ++ enc1 r L i
def esL (r : Nat) (L : List En) : List (BitVec 8) := encA r L L.length
def pos (r : Nat) (L : List En) (i : Nat) : Nat := (encA r L i).length
/-- How many groups so many entries are. -/
def grpN (r n : Nat) : Nat := (n + r - 1) / r
def psL (r : Nat) (L : List En) : List Int := (List.range (grpN r L.length)).map fun g => ((pos r L (g * r) : Nat) : Int)
def lastK : ByteArray → List En → ByteArray
  | k, [] => k
  | _, e :: l => lastK e.1 l
theorem lastK_snoc (l : List En) (e : En) : ∀ k, lastK k (l ++ [e]) = e.1 := by
  induction l with
  | nil => intro k; rfl
  | cons x l ih => intro k; exact ih x.1
theorem lastK_app (a b : List En) : ∀ k, lastK k (a ++ b) = lastK (lastK k a) b := by
  induction a with
  | nil => intro k; rfl
  | cons x l ih => intro k; exact ih x.1
theorem lastK_get (l : List En) (k : ByteArray) (h : l ≠ []) : lastK k l = (l.getD (l.length - 1) dE).1 := by
  rcases List.eq_nil_or_concat l with rfl | ⟨x, e, rfl⟩
  · exact absurd rfl h
  · rw [List.concat_eq_append, lastK_snoc]
    simp
/-- Keys do not fall, the first one not below k. -/
def rises : ByteArray → List En → Bool
  | _, [] => true
  | k, e :: l => decide (0 ≤ order (txt e.1) (txt k)) && rises e.1 l
theorem rises_app (a b : List En) : ∀ k, rises k (a ++ b) = (rises k a && rises (lastK k a) b) := by
  induction a with
  | nil => intro k; simp [rises, lastK]
  | cons x l ih => intro k; simp only [List.cons_append, rises, lastK, ih, Bool.and_assoc]
theorem rises_snoc (l : List En) (e : En) (k : ByteArray) : rises k (l ++ [e]) = (rises k l && decide (0 ≤ order (txt e.1) (txt (lastK k l)))) := by
  rw [rises_app]; simp [rises]
theorem getD_old (L : List En) (e : En) (i : Nat) (h : i < L.length) : (L ++ [e]).getD i dE = L.getD i dE := by
  rw [List.getD_eq_getElem?_getD, List.getD_eq_getElem?_getD, List.getElem?_append_left h]
theorem getD_new (L : List En) (e : En) : (L ++ [e]).getD L.length dE = e := by
  rw [List.getD_eq_getElem?_getD, List.getElem?_append_right (Nat.le_refl _)]; simp
theorem enc1_old (r : Nat) (L : List En) (e : En) (i : Nat) (h : i < L.length) : enc1 r (L ++ [e]) i = enc1 r L i := by
  unfold enc1 cmAt
  rw [getD_old L e i h, getD_old L e (i - 1) (by omega)]
theorem encA_old (r : Nat) (L : List En) (e : En) : ∀ i, i ≤ L.length → encA r (L ++ [e]) i = encA r L i
  | 0, _ => rfl
  | i + 1, h => by unfold encA; rw [encA_old r L e i (by omega), enc1_old r L e i (by omega)]
theorem psL_len (r : Nat) (L : List En) : (psL r L).length = grpN r L.length := by simp [psL]
theorem grpN_mul (r n : Nat) (h : 0 < r) : n % r = 0 ↔ n = grpN r n * r := by
  unfold grpN
  have h1 := Nat.div_add_mod n r
  have h2 := Nat.mod_lt n h
  constructor
  · intro h0
    have h3 : (n + r - 1) / r = n / r := by
      rw [Nat.div_eq_of_lt_le (k := n / r)]
      · rw [Nat.mul_comm]; omega
      · rw [Nat.add_mul, Nat.mul_comm (n / r)]; omega
    rw [h3, Nat.mul_comm]; omega
  · intro h0
    rw [h0]; exact Nat.mul_mod_left _ _
theorem grpN_next (r n : Nat) (h : 0 < r) : grpN r (n + 1) = if n % r = 0 then grpN r n + 1 else grpN r n := by
  have h1 := Nat.div_add_mod n r
  have h2 := Nat.mod_lt n h
  have hA : grpN r (n + 1) = n / r + 1 := by
    unfold grpN
    rw [Nat.div_eq_of_lt_le (k := n / r + 1)]
    · rw [Nat.add_mul, Nat.mul_comm (n / r)]; omega
    · rw [Nat.add_mul, Nat.add_mul, Nat.mul_comm (n / r)]; omega
  split
  · next h0 =>
    have hB : grpN r n = n / r := by
      unfold grpN
      rw [Nat.div_eq_of_lt_le (k := n / r)]
      · rw [Nat.mul_comm]; omega
      · rw [Nat.add_mul, Nat.mul_comm (n / r)]; omega
    rw [hA, hB]
  · next h0 =>
    have hB : grpN r n = n / r + 1 := by
      unfold grpN
      rw [Nat.div_eq_of_lt_le (k := n / r + 1)]
      · rw [Nat.add_mul, Nat.mul_comm (n / r)]; omega
      · rw [Nat.add_mul, Nat.add_mul, Nat.mul_comm (n / r)]; omega
    rw [hA, hB]
theorem rest_iff (r : Nat) (L : List En) (h : 0 < r) : restB L.length (psL r L).length (r : Int) = decide (L.length % r = 0) := by
  unfold restB
  rw [psL_len, Bool.eq_iff_iff, beq_iff_eq, decide_eq_true_iff, grpN_mul r _ h]
  constructor
  · intro h1; exact_mod_cast h1
  · intro h1; exact_mod_cast h1
theorem common_nil (s : List UInt8) : common [] s = 0 := by
  cases s <;> rfl
/-- One entry more: the bytes. -/
theorem esL_snoc (r : Nat) (L : List En) (key value : ByteArray) (h : 0 < r) :
    esL r (L ++ [(key, value)]) = esL r L ++ entL (cmB (restB L.length (psL r L).length (r : Int)) (lastK ⟨#[]⟩ L) key) key value := by
  have e1 : (L ++ [(key, value)]).length = L.length + 1 := by simp
  unfold esL
  rw [e1]
  show encA r _ L.length ++ enc1 r _ L.length = _
  rw [encA_old r L _ _ (Nat.le_refl _)]
  congr 1
  rw [rest_iff r L h]
  unfold enc1 cmAt cmB
  rw [getD_new]
  by_cases h0 : L.length % r = 0
  · rw [if_pos h0, decide_eq_true h0]
    rfl
  · rw [if_neg h0, decide_eq_false h0]
    have hne : L ≠ [] := by
      intro e
      rw [e] at h0
      exact h0 (Nat.zero_mod _)
    have hpos := List.length_pos_iff.2 hne
    rw [getD_old L _ (L.length - 1) (by omega), lastK_get L _ hne]
    rfl
/-- One entry more: the places. -/
theorem psL_snoc (r : Nat) (L : List En) (e : En) (h : 0 < r) : psL r (L ++ [e]) = plB (restB L.length (psL r L).length (r : Int)) (esL r L).length (psL r L) := by
  have e1 : (L ++ [e]).length = L.length + 1 := by simp
  have ho : ∀ g, g * r ≤ L.length → pos r (L ++ [e]) (g * r) = pos r L (g * r) := fun g hg => by unfold pos; rw [encA_old r L e _ hg]
  have hold : ∀ g, g < grpN r L.length → g * r ≤ L.length := fun g hg => by
    unfold grpN at hg
    have := (Nat.le_div_iff_mul_le h).1 (Nat.le_of_lt_succ (Nat.lt_succ_of_lt hg))
    have h2 := (Nat.le_div_iff_mul_le h).1 hg
    rw [Nat.succ_mul] at h2
    omega
  rw [rest_iff r L h]
  unfold plB
  have hmap : (List.range (grpN r L.length)).map (fun g => ((pos r (L ++ [e]) (g * r) : Nat) : Int)) = psL r L := by
    unfold psL
    apply List.map_congr_left
    intro g hg
    rw [ho g (hold g (List.mem_range.1 hg))]
  by_cases h0 : L.length % r = 0
  · rw [decide_eq_true h0]
    simp only [if_true]
    rw [show psL r (L ++ [e]) = (List.range (grpN r (L ++ [e]).length)).map (fun g => ((pos r (L ++ [e]) (g * r) : Nat) : Int)) from rfl, e1, grpN_next r _ h, if_pos h0, List.range_succ, List.map_append, hmap]
    congr 1
    simp only [List.map_cons, List.map_nil]
    have h1 := (grpN_mul r L.length h).1 h0
    rw [← h1]
    unfold pos
    rw [encA_old r L e _ (Nat.le_refl _)]
    rfl
  · rw [decide_eq_false h0]
    simp only [Bool.false_eq_true, if_false]
    rw [show psL r (L ++ [e]) = (List.range (grpN r (L ++ [e]).length)).map (fun g => ((pos r (L ++ [e]) (g * r) : Nat) : Int)) from rfl, e1, grpN_next r _ h, if_neg h0, hmap]
theorem encG_snoc (l : List En) (e : En) : ∀ k, encG k (l ++ [e]) = encG k l ++ entL (common (txt (lastK k l)) (txt e.1)) e.1 e.2 := by
  induction l with
  | nil => intro k; simp [encG, lastK]
  | cons x l ih => intro k; simp only [List.cons_append, encG, lastK, ih, List.append_assoc]
theorem take_snoc (L : List En) (a k : Nat) (h : a + k < L.length) : (L.drop a).take (k + 1) = (L.drop a).take k ++ [L.getD (a + k) dE] := by
  rw [List.take_add_one]
  congr 1
  rw [List.getElem?_drop, List.getElem?_eq_getElem h, List.getD_eq_getElem?_getD, List.getElem?_eq_getElem h]
  rfl
/-- The bytes of a group. -/
theorem encA_grp (r : Nat) (L : List En) (g : Nat) : ∀ k, k ≤ r → g * r + k ≤ L.length → encA r L (g * r + k) = encA r L (g * r) ++ encG ⟨#[]⟩ ((L.drop (g * r)).take k)
  | 0, _, _ => by simp [encG]
  | k + 1, h1, h2 => by
    rw [take_snoc L (g * r) k (by omega), encG_snoc, ← List.append_assoc, ← encA_grp r L g k (by omega) (by omega)]
    show encA r L (g * r + k) ++ enc1 r L (g * r + k) = _
    congr 1
    unfold enc1 cmAt
    have hm : (g * r + k) % r = k := by rw [Nat.add_comm, Nat.add_mul_mod_self_right]; exact Nat.mod_eq_of_lt (by omega)
    rw [hm]
    cases k with
    | zero => rw [if_pos rfl]; simp only [List.take_zero, lastK]; rw [show txt (⟨#[]⟩ : ByteArray) = [] from rfl, common_nil]
    | succ k =>
      rw [if_neg (by omega), lastK_get _ _ (by
        intro e
        have := congrArg List.length e
        rw [List.length_take, List.length_drop] at this
        simp at this
        omega)]
      have hl : ((L.drop (g * r)).take (k + 1)).length = k + 1 := by rw [List.length_take, List.length_drop]; omega
      rw [hl]
      have e2 : ((L.drop (g * r)).take (k + 1)).getD (k + 1 - 1) dE = L.getD (g * r + (k + 1) - 1) dE := by
        rw [List.getD_eq_getElem?_getD, List.getElem?_take_of_lt (by omega), List.getElem?_drop, List.getD_eq_getElem?_getD]
        congr 2
      rw [e2]
theorem encA_pre (r : Nat) (L : List En) (i : Nat) : ∀ d, ∃ t, encA r L (i + d) = encA r L i ++ t
  | 0 => ⟨[], by simp⟩
  | d + 1 => by
    obtain ⟨t, ht⟩ := encA_pre r L i d
    exact ⟨t ++ enc1 r L (i + d), by
      have e : encA r L (i + (d + 1)) = encA r L (i + d) ++ enc1 r L (i + d) := rfl
      rw [e, ht, List.append_assoc]⟩
def gszN (r n g : Nat) : Nat := min r (n - g * r)
/-- The bytes of the group g, by the places. -/
def grpL (E : List (BitVec 8)) (ps : List Int) (g : Nat) : List (BitVec 8) := (E.drop (ps.getD g 0).toNat).take ((ps.getD (g + 1) 0).toNat - (ps.getD g 0).toNat)
def plL (r : Nat) (L : List En) : List Int := psL r L ++ [((esL r L).length : Int)]
theorem grp_lt (r n g : Nat) (h : 0 < r) (hg : g < grpN r n) : g * r < n := by
  unfold grpN at hg
  have h2 := (Nat.le_div_iff_mul_le h).1 hg
  rw [Nat.succ_mul] at h2
  omega
theorem plL_get (r : Nat) (L : List En) (g : Nat) (h : 0 < r) (hg : g ≤ grpN r L.length) : (plL r L).getD g 0 = ((pos r L (min (g * r) L.length) : Nat) : Int) := by
  unfold plL
  by_cases h1 : g < grpN r L.length
  · have h2 := grp_lt r L.length g h h1
    rw [List.getD_eq_getElem?_getD, List.getElem?_append_left (by rw [psL_len]; exact h1)]
    unfold psL
    rw [List.getElem?_map, List.getElem?_range h1, Nat.min_eq_left (Nat.le_of_lt h2)]
    rfl
  · have h2 : g = grpN r L.length := by omega
    have h3 : L.length ≤ g * r := by
      rw [h2]; unfold grpN
      have h4 := Nat.div_add_mod (L.length + r - 1) r
      have h5 := Nat.mod_lt (L.length + r - 1) h
      rw [Nat.mul_comm]; omega
    rw [List.getD_eq_getElem?_getD, List.getElem?_append_right (by rw [psL_len]; omega), psL_len, h2, Nat.sub_self, Nat.min_eq_right (by rw [← h2]; exact h3)]
    rfl
theorem grp_back (r : Nat) (L : List En) (g : Nat) (h : 0 < r) (hg : g < grpN r L.length) : grpL (esL r L) (plL r L) g = encG ⟨#[]⟩ ((L.drop (g * r)).take (gszN r L.length g)) := by
  have h1 := grp_lt r L.length g h hg
  have hm : min ((g + 1) * r) L.length = g * r + gszN r L.length g := by unfold gszN; rw [Nat.add_mul]; omega
  have hk := encA_grp r L g (gszN r L.length g) (by unfold gszN; omega) (by unfold gszN; omega)
  obtain ⟨t, ht⟩ := encA_pre r L (g * r + gszN r L.length g) (L.length - (g * r + gszN r L.length g))
  rw [Nat.add_sub_cancel' (by unfold gszN; omega), hk] at ht
  unfold grpL
  rw [plL_get r L g h (by omega), plL_get r L (g + 1) h (by omega), hm, Nat.min_eq_left (Nat.le_of_lt h1)]
  unfold esL
  rw [ht]
  unfold pos
  rw [hk]
  simp only [Int.toNat_natCast, List.length_append, List.append_assoc]
  rw [List.drop_left, Nat.add_sub_cancel_left, List.take_left]
/-- Whether the groups from g on, so many, are right, behind the key k. -/
def rightF (E : List (BitVec 8)) (ps : List Int) (r n : Nat) : Nat → Nat → ByteArray → Bool
  | 0, _, _ => true
  | f + 1, g, k => rises k (entsW (gszN r n g) ⟨#[]⟩ (some (grpL E ps g))).1 && decide ((entsW (gszN r n g) ⟨#[]⟩ (some (grpL E ps g))).2 = some []) && rightF E ps r n f (g + 1) (lastK k (entsW (gszN r n g) ⟨#[]⟩ (some (grpL E ps g))).1)
theorem small_part {L : List En} (h : Small L) (a k : Nat) : Small ((L.drop a).take k) := fun e he => h e (List.mem_of_mem_drop (List.mem_of_mem_take he))
theorem grp_ents (r : Nat) (L : List En) (g : Nat) (h : 0 < r) (hs : Small L) (hg : g < grpN r L.length) : entsW (gszN r L.length g) ⟨#[]⟩ (some (grpL (esL r L) (plL r L) g)) = ((L.drop (g * r)).take (gszN r L.length g), some []) := by
  have h1 := grp_lt r L.length g h hg
  rw [grp_back r L g h hg]
  have h2 := ents_read ((L.drop (g * r)).take (gszN r L.length g)) ⟨#[]⟩ [] (by show (0 : Nat) ≤ 1024; omega) (small_part hs _ _)
  rw [List.append_nil, show ((L.drop (g * r)).take (gszN r L.length g)).length = gszN r L.length g from by rw [List.length_take, List.length_drop]; unfold gszN; omega] at h2
  exact h2
theorem right_back (r : Nat) (L : List En) (h : 0 < r) (hs : Small L) : ∀ f g k, f + g = grpN r L.length → rises k (L.drop (g * r)) = true → rightF (esL r L) (plL r L) r L.length f g k = true
  | 0, _, _, _, _ => rfl
  | f + 1, g, k, hf, hr => by
    have hg : g < grpN r L.length := by omega
    have h1 := grp_lt r L.length g h hg
    have he := grp_ents r L g h hs hg
    have hsplit : L.drop (g * r) = (L.drop (g * r)).take (gszN r L.length g) ++ L.drop ((g + 1) * r) := by
      by_cases hc : r ≤ L.length - g * r
      · have : gszN r L.length g = r := by unfold gszN; omega
        rw [this, Nat.add_mul, Nat.one_mul, ← List.drop_drop, List.take_append_drop]
      · have : gszN r L.length g = L.length - g * r := by unfold gszN; omega
        rw [this, List.drop_eq_nil_of_le (i := (g + 1) * r) (by rw [Nat.add_mul]; omega), List.append_nil, List.take_of_length_le (by rw [List.length_drop]; omega)]
    rw [hsplit, rises_app, Bool.and_eq_true] at hr
    unfold rightF
    rw [he]
    simp only
    rw [hr.1, right_back r L h hs f (g + 1) _ (by omega) hr.2]
    simp
end Go.Proofs.YthdblnfohbldcaaGreat.Bl
