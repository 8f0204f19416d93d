/-
  Entries in groups: what a builder has gathered, and what a reader makes of it.
-/
import Derived.Test.YthdblnfohbldcaaGreatBlCurDJ
import Derived.Test.YthdblnfohbldcaaGreatBlAddJ
import Derived.Test.YthdblnfohbldcaaGreatBlNextJ
import Derived.Test.YthdblnfohbldcaaGreatBlModJ
import Derived.Test.YthdblnfohbldcaaGreatLzC4J
import Derived.Test.YthdblnfohbldcaaGreatBlCutMJ
import Derived.Test.YthdblnfohbldcaaGreatBlRawJ
import Derived.Lib.MinMax
namespace Go.Proofs.YthdblnfohbldcaaGreat.Bl
open Go.Proofs.YthdblnfohbldcaaGreat.Base Go.Proofs.YthdblnfohbldcaaGreat.Nums Go.Proofs.YthdblnfohbldcaaGreat.Curs
open Go.Proofs.YthdblnfohbldcaaGreat.Fa (St)
set_option linter.unusedVariables false
abbrev En := ByteArray × ByteArray
def dE : En := (⟨#[]⟩, ⟨#[]⟩)
/-- What the key of the place i has in common with the one ahead of it. -/
def cmAt (r : Nat) (L : List En) (i : Nat) : Nat := if i % r = 0 then 0 else common (txt (L.getD (i - 1) dE).1) (txt (L.getD i dE).1)
def enc1 (r : Nat) (L : List En) (i : Nat) : List (BitVec 8) := entL (cmAt r L i) (L.getD i dE).1 (L.getD i dE).2
/-- The bytes of the first i entries. -/
def encA (r : Nat) (L : List En) : Nat → List (BitVec 8)
  | 0 => []
  | i + 1 => encA r L i ++ enc1 r L i
def esL (r : Nat) (L : List En) : List (BitVec 8) := encA r L L.length
def pos (r : Nat) (L : List En) (i : Nat) : Nat := (encA r L i).length
/-- How many groups so many entries are. -/
def grpN (r n : Nat) : Nat := (n + r - 1) / r
def psL (r : Nat) (L : List En) : List Int := (List.range (grpN r L.length)).map fun g => ((pos r L (g * r) : Nat) : Int)
def lastK : ByteArray → List En → ByteArray
  | k, [] => k
  | _, e :: l => lastK e.1 l
theorem lastK_snoc (l : List En) (e : En) : ∀ k, lastK k (l ++ [e]) = e.1 := by
  induction l with
  | nil => intro k; rfl
  | cons x l ih => intro k; exact ih x.1
theorem lastK_app (a b : List En) : ∀ k, lastK k (a ++ b) = lastK (lastK k a) b := by
  induction a with
  | nil => intro k; rfl
  | cons x l ih => intro k; exact ih x.1
theorem lastK_get (l : List En) (k : ByteArray) (h : l ≠ []) : lastK k l = (l.getD (l.length - 1) dE).1 := by
  rcases List.eq_nil_or_concat l with rfl | ⟨x, e, rfl⟩
  · exact absurd rfl h
  · rw [List.concat_eq_append, lastK_snoc]
    simp
/-- Keys do not fall, the first one not below k. -/
def rises : ByteArray → List En → Bool
  | _, [] => true
  | k, e :: l => decide (0 ≤ order (txt e.1) (txt k)) && rises e.1 l
theorem rises_app (a b : List En) : ∀ k, rises k (a ++ b) = (rises k a && rises (lastK k a) b) := by
  induction a with
  | nil => intro k; simp [rises, lastK]
  | cons x l ih => intro k; simp only [List.cons_append, rises, lastK, ih, Bool.and_assoc]
theorem rises_snoc (l : List En) (e : En) (k : ByteArray) : rises k (l ++ [e]) = (rises k l && decide (0 ≤ order (txt e.1) (txt (lastK k l)))) := by
  rw [rises_app]; simp [rises]
theorem getD_old (L : List En) (e : En) (i : Nat) (h : i < L.length) : (L ++ [e]).getD i dE = L.getD i dE := by
  rw [List.getD_eq_getElem?_getD, List.getD_eq_getElem?_getD, List.getElem?_append_left h]
theorem getD_new (L : List En) (e : En) : (L ++ [e]).getD L.length dE = e := by
  rw [List.getD_eq_getElem?_getD, List.getElem?_append_right (Nat.le_refl _)]; simp
theorem enc1_old (r : Nat) (L : List En) (e : En) (i : Nat) (h : i < L.length) : enc1 r (L ++ [e]) i = enc1 r L i := by
  unfold enc1 cmAt
  rw [getD_old L e i h, getD_old L e (i - 1) (by omega)]
theorem encA_old (r : Nat) (L : List En) (e : En) : ∀ i, i ≤ L.length → encA r (L ++ [e]) i = encA r L i
  | 0, _ => rfl
  | i + 1, h => by unfold encA; rw [encA_old r L e i (by omega), enc1_old r L e i (by omega)]
theorem psL_len (r : Nat) (L : List En) : (psL r L).length = grpN r L.length := by simp [psL]
theorem grpN_mul (r n : Nat) (h : 0 < r) : n % r = 0 ↔ n = grpN r n * r := by
  unfold grpN
  have h1 := Nat.div_add_mod n r
  have h2 := Nat.mod_lt n h
  constructor
  · intro h0
    have h3 : (n + r - 1) / r = n / r := by
      rw [Nat.div_eq_of_lt_le (k := n / r)]
      · rw [Nat.mul_comm]; omega
      · rw [Nat.add_mul, Nat.mul_comm (n / r)]; omega
    rw [h3, Nat.mul_comm]; omega
  · intro h0
    rw [h0]; exact Nat.mul_mod_left _ _
theorem grpN_next (r n : Nat) (h : 0 < r) : grpN r (n + 1) = if n % r = 0 then grpN r n + 1 else grpN r n := by
  have h1 := Nat.div_add_mod n r
  have h2 := Nat.mod_lt n h
  have hA : grpN r (n + 1) = n / r + 1 := by
    unfold grpN
    rw [Nat.div_eq_of_lt_le (k := n / r + 1)]
    · rw [Nat.add_mul, Nat.mul_comm (n / r)]; omega
    · rw [Nat.add_mul, Nat.add_mul, Nat.mul_comm (n / r)]; omega
  split
  · next h0 =>
    have hB : grpN r n = n / r := by
      unfold grpN
      rw [Nat.div_eq_of_lt_le (k := n / r)]
      · rw [Nat.mul_comm]; omega
      · rw [Nat.add_mul, Nat.mul_comm (n / r)]; omega
    rw [hA, hB]
  · next h0 =>
    have hB : grpN r n = n / r + 1 := by
      unfold grpN
      rw [Nat.div_eq_of_lt_le (k := n / r + 1)]
      · rw [Nat.add_mul, Nat.mul_comm (n / r)]; omega
      · rw [Nat.add_mul, Nat.add_mul, Nat.mul_comm (n / r)]; omega
    rw [hA, hB]
theorem rest_iff (r : Nat) (L : List En) (h : 0 < r) : restB L.length (psL r L).length (r : Int) = decide (L.length % r = 0) := by
  unfold restB
  rw [psL_len, Bool.eq_iff_iff, beq_iff_eq, decide_eq_true_iff, grpN_mul r _ h]
  constructor
  · intro h1; exact_mod_cast h1
  · intro h1; exact_mod_cast h1
theorem common_nil (s : List UInt8) : common [] s = 0 := by
  cases s <;> rfl
/-- One entry more: the bytes. -/
theorem esL_snoc (r : Nat) (L : List En) (key value : ByteArray) (h : 0 < r) :
    esL r (L ++ [(key, value)]) = esL r L ++ entL (cmB (restB L.length (psL r L).length (r : Int)) (lastK ⟨#[]⟩ L) key) key value := by
  have e1 : (L ++ [(key, value)]).length = L.length + 1 := by simp
  unfold esL
  rw [e1]
  show encA r _ L.length ++ enc1 r _ L.length = _
  rw [encA_old r L _ _ (Nat.le_refl _)]
  congr 1
  rw [rest_iff r L h]
  unfold enc1 cmAt cmB
  rw [getD_new]
  by_cases h0 : L.length % r = 0
  · rw [if_pos h0, decide_eq_true h0]
    rfl
  · rw [if_neg h0, decide_eq_false h0]
    have hne : L ≠ [] := by
      intro e
      rw [e] at h0
      exact h0 (Nat.zero_mod _)
    have hpos := List.length_pos_iff.2 hne
    rw [getD_old L _ (L.length - 1) (by omega), lastK_get L _ hne]
    rfl
/-- One entry more: the places. -/
theorem psL_snoc (r : Nat) (L : List En) (e : En) (h : 0 < r) : psL r (L ++ [e]) = plB (restB L.length (psL r L).length (r : Int)) (esL r L).length (psL r L) := by
  have e1 : (L ++ [e]).length = L.length + 1 := by simp
  have ho : ∀ g, g * r ≤ L.length → pos r (L ++ [e]) (g * r) = pos r L (g * r) := fun g hg => by unfold pos; rw [encA_old r L e _ hg]
  have hold : ∀ g, g < grpN r L.length → g * r ≤ L.length := fun g hg => by
    unfold grpN at hg
    have := (Nat.le_div_iff_mul_le h).1 (Nat.le_of_lt_succ (Nat.lt_succ_of_lt hg))
    have h2 := (Nat.le_div_iff_mul_le h).1 hg
    rw [Nat.succ_mul] at h2
    omega
  rw [rest_iff r L h]
  unfold plB
  have hmap : (List.range (grpN r L.length)).map (fun g => ((pos r (L ++ [e]) (g * r) : Nat) : Int)) = psL r L := by
    unfold psL
    apply List.map_congr_left
    intro g hg
    rw [ho g (hold g (List.mem_range.1 hg))]
  by_cases h0 : L.length % r = 0
  · rw [decide_eq_true h0]
    simp only [if_true]
    rw [show psL r (L ++ [e]) = (List.range (grpN r (L ++ [e]).length)).map (fun g => ((pos r (L ++ [e]) (g * r) : Nat) : Int)) from rfl, e1, grpN_next r _ h, if_pos h0, List.range_succ, List.map_append, hmap]
    congr 1
    simp only [List.map_cons, List.map_nil]
    have h1 := (grpN_mul r L.length h).1 h0
    rw [← h1]
    unfold pos
    rw [encA_old r L e _ (Nat.le_refl _)]
    rfl
  · rw [decide_eq_false h0]
    simp only [Bool.false_eq_true, if_false]
    rw [show psL r (L ++ [e]) = (List.range (grpN r (L ++ [e]).length)).map (fun g => ((pos r (L ++ [e]) (g * r) : Nat) : Int)) from rfl, e1, grpN_next r _ h, if_neg h0, hmap]
theorem encG_snoc (l : List En) (e : En) : ∀ k, encG k (l ++ [e]) = encG k l ++ entL (common (txt (lastK k l)) (txt e.1)) e.1 e.2 := by
  induction l with
  | nil => intro k; simp [encG, lastK]
  | cons x l ih => intro k; simp only [List.cons_append, encG, lastK, ih, List.append_assoc]
theorem take_snoc (L : List En) (a k : Nat) (h : a + k < L.length) : (L.drop a).take (k + 1) = (L.drop a).take k ++ [L.getD (a + k) dE] := by
  rw [List.take_add_one]
  congr 1
  rw [List.getElem?_drop, List.getElem?_eq_getElem h, List.getD_eq_getElem?_getD, List.getElem?_eq_getElem h]
  rfl
/-- The bytes of a group. -/
theorem encA_grp (r : Nat) (L : List En) (g : Nat) : ∀ k, k ≤ r → g * r + k ≤ L.length → encA r L (g * r + k) = encA r L (g * r) ++ encG ⟨#[]⟩ ((L.drop (g * r)).take k)
  | 0, _, _ => by simp [encG]
  | k + 1, h1, h2 => by
    rw [take_snoc L (g * r) k (by omega), encG_snoc, ← List.append_assoc, ← encA_grp r L g k (by omega) (by omega)]
    show encA r L (g * r + k) ++ enc1 r L (g * r + k) = _
    congr 1
    unfold enc1 cmAt
    have hm : (g * r + k) % r = k := by rw [Nat.add_comm, Nat.add_mul_mod_self_right]; exact Nat.mod_eq_of_lt (by omega)
    rw [hm]
    cases k with
    | zero => rw [if_pos rfl]; simp only [List.take_zero, lastK]; rw [show txt (⟨#[]⟩ : ByteArray) = [] from rfl, common_nil]
    | succ k =>
      rw [if_neg (by omega), lastK_get _ _ (by
        intro e
        have := congrArg List.length e
        rw [List.length_take, List.length_drop] at this
        simp at this
        omega)]
      have hl : ((L.drop (g * r)).take (k + 1)).length = k + 1 := by rw [List.length_take, List.length_drop]; omega
      rw [hl]
      have e2 : ((L.drop (g * r)).take (k + 1)).getD (k + 1 - 1) dE = L.getD (g * r + (k + 1) - 1) dE := by
        rw [List.getD_eq_getElem?_getD, List.getElem?_take_of_lt (by omega), List.getElem?_drop, List.getD_eq_getElem?_getD]
        congr 2
      rw [e2]
theorem encA_pre (r : Nat) (L : List En) (i : Nat) : ∀ d, ∃ t, encA r L (i + d) = encA r L i ++ t
  | 0 => ⟨[], by simp⟩
  | d + 1 => by
    obtain ⟨t, ht⟩ := encA_pre r L i d
    exact ⟨t ++ enc1 r L (i + d), by
      have e : encA r L (i + (d + 1)) = encA r L (i + d) ++ enc1 r L (i + d) := rfl
      rw [e, ht, List.append_assoc]⟩
def gszN (r n g : Nat) : Nat := min r (n - g * r)
/-- The bytes of the group g, by the places. -/
def grpL (E : List (BitVec 8)) (ps : List Int) (g : Nat) : List (BitVec 8) := (E.drop (ps.getD g 0).toNat).take ((ps.getD (g + 1) 0).toNat - (ps.getD g 0).toNat)
def plL (r : Nat) (L : List En) : List Int := psL r L ++ [((esL r L).length : Int)]
theorem grp_lt (r n g : Nat) (h : 0 < r) (hg : g < grpN r n) : g * r < n := by
  unfold grpN at hg
  have h2 := (Nat.le_div_iff_mul_le h).1 hg
  rw [Nat.succ_mul] at h2
  omega
theorem plL_get (r : Nat) (L : List En) (g : Nat) (h : 0 < r) (hg : g ≤ grpN r L.length) : (plL r L).getD g 0 = ((pos r L (min (g * r) L.length) : Nat) : Int) := by
  unfold plL
  by_cases h1 : g < grpN r L.length
  · have h2 := grp_lt r L.length g h h1
    rw [List.getD_eq_getElem?_getD, List.getElem?_append_left (by rw [psL_len]; exact h1)]
    unfold psL
    rw [List.getElem?_map, List.getElem?_range h1, Nat.min_eq_left (Nat.le_of_lt h2)]
    rfl
  · have h2 : g = grpN r L.length := by omega
    have h3 : L.length ≤ g * r := by
      rw [h2]; unfold grpN
      have h4 := Nat.div_add_mod (L.length + r - 1) r
      have h5 := Nat.mod_lt (L.length + r - 1) h
      rw [Nat.mul_comm]; omega
    rw [List.getD_eq_getElem?_getD, List.getElem?_append_right (by rw [psL_len]; omega), psL_len, h2, Nat.sub_self, Nat.min_eq_right (by rw [← h2]; exact h3)]
    rfl
theorem grp_back (r : Nat) (L : List En) (g : Nat) (h : 0 < r) (hg : g < grpN r L.length) : grpL (esL r L) (plL r L) g = encG ⟨#[]⟩ ((L.drop (g * r)).take (gszN r L.length g)) := by
  have h1 := grp_lt r L.length g h hg
  have hm : min ((g + 1) * r) L.length = g * r + gszN r L.length g := by unfold gszN; rw [Nat.add_mul]; omega
  have hk := encA_grp r L g (gszN r L.length g) (by unfold gszN; omega) (by unfold gszN; omega)
  obtain ⟨t, ht⟩ := encA_pre r L (g * r + gszN r L.length g) (L.length - (g * r + gszN r L.length g))
  rw [Nat.add_sub_cancel' (by unfold gszN; omega), hk] at ht
  unfold grpL
  rw [plL_get r L g h (by omega), plL_get r L (g + 1) h (by omega), hm, Nat.min_eq_left (Nat.le_of_lt h1)]
  unfold esL
  rw [ht]
  unfold pos
  rw [hk]
  simp only [Int.toNat_natCast, List.length_append, List.append_assoc]
  rw [List.drop_left, Nat.add_sub_cancel_left, List.take_left]
/-- Whether the groups from g on, so many, are right, behind the key k. -/
def rightF (E : List (BitVec 8)) (ps : List Int) (r n : Nat) : Nat → Nat → ByteArray → Bool
  | 0, _, _ => true
  | f + 1, g, k => rises k (entsW (gszN r n g) ⟨#[]⟩ (some (grpL E ps g))).1 && decide ((entsW (gszN r n g) ⟨#[]⟩ (some (grpL E ps g))).2 = some []) && rightF E ps r n f (g + 1) (lastK k (entsW (gszN r n g) ⟨#[]⟩ (some (grpL E ps g))).1)
theorem small_part {L : List En} (h : Small L) (a k : Nat) : Small ((L.drop a).take k) := fun e he => h e (List.mem_of_mem_drop (List.mem_of_mem_take he))
theorem grp_ents (r : Nat) (L : List En) (g : Nat) (h : 0 < r) (hs : Small L) (hg : g < grpN r L.length) : entsW (gszN r L.length g) ⟨#[]⟩ (some (grpL (esL r L) (plL r L) g)) = ((L.drop (g * r)).take (gszN r L.length g), some []) := by
  have h1 := grp_lt r L.length g h hg
  rw [grp_back r L g h hg]
  have h2 := ents_read ((L.drop (g * r)).take (gszN r L.length g)) ⟨#[]⟩ [] (by show (0 : Nat) ≤ 1024; omega) (small_part hs _ _)
  rw [List.append_nil, show ((L.drop (g * r)).take (gszN r L.length g)).length = gszN r L.length g from by rw [List.length_take, List.length_drop]; unfold gszN; omega] at h2
  exact h2
theorem right_back (r : Nat) (L : List En) (h : 0 < r) (hs : Small L) : ∀ f g k, f + g = grpN r L.length → rises k (L.drop (g * r)) = true → rightF (esL r L) (plL r L) r L.length f g k = true
  | 0, _, _, _, _ => rfl
  | f + 1, g, k, hf, hr => by
    have hg : g < grpN r L.length := by omega
    have h1 := grp_lt r L.length g h hg
    have he := grp_ents r L g h hs hg
    have hsplit : L.drop (g * r) = (L.drop (g * r)).take (gszN r L.length g) ++ L.drop ((g + 1) * r) := by
      by_cases hc : r ≤ L.length - g * r
      · have : gszN r L.length g = r := by unfold gszN; omega
        rw [this, Nat.add_mul, Nat.one_mul, ← List.drop_drop, List.take_append_drop]
      · have : gszN r L.length g = L.length - g * r := by unfold gszN; omega
        rw [this, List.drop_eq_nil_of_le (i := (g + 1) * r) (by rw [Nat.add_mul]; omega), List.append_nil, List.take_of_length_le (by rw [List.length_drop]; omega)]
    rw [hsplit, rises_app, Bool.and_eq_true] at hr
    unfold rightF
    rw [he]
    simp only
    rw [hr.1, right_back r L h hs f (g + 1) _ (by omega) hr.2]
    simp
end Go.Proofs.YthdblnfohbldcaaGreat.Bl
/-
  A reader with its bytes and places; a walker of a group.
-/
namespace Go.Proofs.YthdblnfohbldcaaGreat.Bl
open Go.ChangeShapes Go.WideShapes Go.ChangeAt Go.RowKit
open Go.Proofs.YthdblnfohbldcaaGreat.Base Go.Proofs.YthdblnfohbldcaaGreat.Nums Go.Proofs.YthdblnfohbldcaaGreat.Curs
open Go.Proofs.YthdblnfohbldcaaGreat.Fa (St Cst)
set_option linter.unusedVariables false
def laB (ua : Option Addr) (cap e : Nat) : Option Addr := if cap = e then ua else ua.map (·.add e)
theorem slice_lh8 (ua : Option Addr) (len cap e f : Nat) (h : e ≤ f) (hc : f ≤ cap) (W : World) : (Instr.sliceAt 24 (.slice ua len cap) (some (.int .i64 (e : Int))) (some (.int .i64 (f : Int))) none).run Tryz.prog W = .ok (.slice (laB ua cap e) (f - e) (cap - e)) W := by
  rw [run_sliceAt_slice (h := el8), run_slice_lh (ht := el8) (h0 := by omega) (h1 := by omega) (h2 := by omega), sz8]
  simp only [Result.andThen, sliced, Int.toNat_natCast, Nat.mul_one]
  rfl
theorem laB_nil {ua : Option Addr} {cap e : Nat} (h : laB ua cap e = none) : ua = none := by
  unfold laB at h
  split at h
  · exact h
  · cases ua with
    | none => rfl
    | some a => cases h
theorem rd_lh {w : World} {a : Option Addr} {n cap e f : Nat} {bs : List (BitVec 8)} (h : Rd w a n bs) (he : e ≤ f) (hf : f ≤ n) (hn : n ≤ cap) : Rd w (laB a cap e) (f - e) ((bs.drop e).take (f - e)) := by
  by_cases hz : f - e = 0
  · rw [hz, List.take_zero]; exact rd_zero _ _
  · obtain ⟨b, off, rfl, _, _⟩ := h.2.2 (by omega)
    have h1 := (h.from e (by omega)).cut (f - e) (by omega)
    unfold laB
    rw [if_neg (by omega), Option.map_some, add_at rfl]
    exact h1
/-- A reader stands at q: its entries' bytes, its places, its restart interval, how many entries. -/
def RX (w : World) (q : Nat) (E : List (BitVec 8)) (ps : List Int) (r n : Nat) : Prop :=
  ∃ ea ec pa pc, RR w q (.slice ea E.length ec) (.slice pa ps.length pc) (r : Int) (n : Int) ∧ Rd w ea E.length E ∧ E.length ≤ ec ∧ ec ≤ 9223372036854775807 ∧ (ea = none → ec = 0) ∧ RdI w pa ps.length ps ∧ ps.length ≤ pc
theorem RX.below {w w' : World} {q : Nat} {E : List (BitVec 8)} {ps : List Int} {r n : Nat} (h : RX w q E ps r n) (hb : Below w.heap.size w w') : RX w' q E ps r n := by
  obtain ⟨ea, ec, pa, pc, h1, h2, h3, h4, h5, h6, h7⟩ := h
  exact ⟨ea, ec, pa, pc, h1.below hb, h2.below hb, h3, h4, h5, h6.below hb, h7⟩
theorem RX.lt {w : World} {q : Nat} {E : List (BitVec 8)} {ps : List Int} {r n : Nat} (h : RX w q E ps r n) : q < w.heap.size := by
  obtain ⟨ea, ec, pa, pc, h1, _⟩ := h
  exact h1.lt
/-- Places that may be. -/
def PsOk (E : List (BitVec 8)) (ps : List Int) : Prop := ∀ g, g + 1 < ps.length → 0 ≤ ps.getD g 0 ∧ ps.getD g 0 ≤ ps.getD (g + 1) 0 ∧ ps.getD (g + 1) 0 ≤ (E.length : Int)
set_option maxHeartbeats 4000000 in
set_option maxRecDepth 100000 in
theorem walk_any (q g : Nat) (E : List (BitVec 8)) (ps : List Int) (r n : Nat) (w : World) (h : RX w q E ps r n) (hp : PsOk E ps) (hg : g + 1 < ps.length) (hE : E.length ≤ 65536) (hps : ps.length ≤ 65537) :
    Calls Tryz.prog 57 #[.pointer (some ⟨q, 0, none⟩), .int .i64 (g : Int)] w fun e w' => ∃ k c, e = .returned (.pointer (some ⟨k, 0, none⟩)) ∧ WK w' k c ⟨#[]⟩ ∧ w.heap.size ≤ c ∧ c < k ∧ Cst w' c (some (grpL E ps g)) ∧ Below w.heap.size w w' := by
  obtain ⟨ea, ec, pa, pc, h1, h2, h3, h4, h5, h6, h7⟩ := h
  obtain ⟨hp1, hp2, hp3⟩ := hp g hg
  obtain ⟨p1, hq1⟩ := Int.eq_ofNat_of_zero_le hp1
  obtain ⟨p2, hq2⟩ := Int.eq_ofNat_of_zero_le (Int.le_trans hp1 hp2)
  have hgr : grpL E ps g = (E.drop p1).take (p2 - p1) := by unfold grpL; rw [hq1, hq2]; rfl
  rw [hgr]
  rw [hq1] at hp2
  rw [hq2] at hp2 hp3
  have hp12 : p1 ≤ p2 := by omega
  have hp2e : p2 ≤ E.length := by omega
  have hrd := rd_lh (cap := ec) h2 hp12 hp2e h3
  have hsl := slice_lh8 ea E.length ec p1 p2 hp12 (by omega)
  have HW : Hid (∀ W, Below w.heap.size w W → Calls Tryz.prog 101 #[.slice (laB ea ec p1) (p2 - p1) (ec - p1)] W fun e w' => ∃ k c, e = .returned (.pointer (some ⟨k, 0, none⟩)) ∧ WK w' k c ⟨#[]⟩ ∧ W.heap.size ≤ c ∧ c < k ∧ Cst w' c (some ((E.drop p1).take (p2 - p1))) ∧ Below W.heap.size W w') := fun W hW =>
    newW_any _ _ _ _ W (newCursor_any _ _ _ _ W (hrd.below hW) (by omega) (by omega) (fun e => by have := h5 (laB_nil e); omega))
  obtain ⟨LA, hLA⟩ : ∃ LA, laB ea ec p1 = LA := ⟨_, rfl⟩
  obtain ⟨LN, hLN⟩ : ∃ LN, p2 - p1 = LN := ⟨_, rfl⟩
  obtain ⟨LC, hLC⟩ : ∃ LC, ec - p1 = LC := ⟨_, rfl⟩
  obtain ⟨G, hG⟩ : ∃ G, (E.drop p1).take (p2 - p1) = G := ⟨_, rfl⟩
  rw [hG] at HW ⊢
  rw [hLA, hLN, hLC] at hsl HW
  obtain ⟨c0, c1, c2, c3⟩ := h1.cells
  obtain ⟨pb, po, rfl, hpb, hpc⟩ := h6.2.2 (by omega)
  have hql := h1.lt
  have g1 := hpc g (by omega)
  have g2 := hpc (g + 1) hg
  rw [hq1] at g1
  rw [hq2] at g2
  obtain ⟨N, hN⟩ : ∃ N, ps.length = N := ⟨_, rfl⟩
  obtain ⟨M, hM⟩ : ∃ M, E.length = M := ⟨_, rfl⟩
  rw [hN] at c1 hg
  rw [hM] at c0 hsl
  have i1 : (g : Int) < (N : Int) := by omega
  have i2 : (g : Int) + 1 < (N : Int) := by omega
  have i3 : IntKind.i64.wrap ((g : Int) + 1) = (g : Int) + 1 := by rw [IntKind.wrap_i64]; omega
  have i4 : ((g : Int) + 1).toNat = g + 1 := by omega
  have i5 : IntKind.i64.wrap (g : Int) = (g : Int) := by rw [IntKind.wrap_i64]; omega
  have i6 : 0 ≤ (g : Int) + 1 := by omega
  clear h1 h2 h3 h4 h5 h6 h7 hp hp1 hp2 hp3 hq1 hq2 hgr hp12 hp2e hrd hLA hLN hLC hG hpc hN hM hps hE c2 c3 hg
  have HE0 : Hid (∀ W, Below w.heap.size w W → W.cell? ⟨q, 0, none⟩ = some (.slice ea M ec) ∧ W.cell? ⟨q, 1, none⟩ = some (.slice (some ⟨pb, po, none⟩) N pc) ∧ W.cell? ⟨pb, po + g, none⟩ = some (.int .i64 (p1 : Int)) ∧ W.cell? ⟨pb, po + (g + 1), none⟩ = some (.int .i64 (p2 : Int))) := fun W hW =>
    ⟨(hW.cell (p := ⟨q, 0, none⟩) hql).trans c0, (hW.cell (p := ⟨q, 1, none⟩) hql).trans c1, (hW.cell (p := ⟨pb, po + g, none⟩) hpb).trans g1, (hW.cell (p := ⟨pb, po + (g + 1), none⟩) hpb).trans g2⟩
  clear hql hpb
  go_enter Tryz.func57, Tryz.ntmps57
  go_wp2_with fail
  go_region_held_law (fun V => V.cell? ⟨q, 0, none⟩ = some (.slice ea M ec) ∧ V.cell? ⟨q, 1, none⟩ = some (.slice (some ⟨pb, po, none⟩) N pc) ∧ V.cell? ⟨pb, po + g, none⟩ = some (.int .i64 (p1 : Int)) ∧ V.cell? ⟨pb, po + (g + 1), none⟩ = some (.int .i64 (p2 : Int))) (first | exact E1.out | go_keep) (first
    | (go_at_call 101; refine (HW.out _ (Below.refl _ _).drew).mono ?_; rintro e w1 ⟨k, c, rfl, hk, hc1, hc2, hc3, hb⟩; have HK := hide hk; have H1 := hide hc1; have H2 := hide hc2; have H3 := hide hc3; have HB := hide hb; have E1 := hide (HE0.out _ (below_trans (Below.refl _ _).drew hb)); clear hk hc1 hc2 hc3 hb))
  all_goals
    go_wp2_with fail
    go_ret
    exact ⟨k, c, rfl, HK.out, H1.out, H2.out, H3.out, below_trans (Below.refl _ _).drew HB.out⟩
end Go.Proofs.YthdblnfohbldcaaGreat.Bl
/-
  cut: raw bytes cut into groups.
-/
namespace Go.Proofs.YthdblnfohbldcaaGreat.Bl
open Go.ChangeShapes Go.WideShapes Go.ChangeAt Go.RowKit
open Go.Proofs.YthdblnfohbldcaaGreat.Base Go.Proofs.YthdblnfohbldcaaGreat.Nums Go.Proofs.YthdblnfohbldcaaGreat.Curs
open Go.Proofs.YthdblnfohbldcaaGreat.Fa (St Cst fixS fix_st)
set_option linter.unusedVariables false
theorem slice_l8 (ua : Option Addr) (len cap e : Nat) (h : e ≤ len) (hc : len ≤ cap) (W : World) : (Instr.sliceAt 24 (.slice ua len cap) (some (.int .i64 (e : Int))) none none).run Tryz.prog W = .ok (.slice (laB ua cap e) (len - e) (cap - e)) W := by
  rw [run_sliceAt_slice (h := el8), run_slice_l (ht := el8) (h0 := by omega) (h1 := by omega), sz8]
  simp only [Result.andThen, sliced, Int.toNat_natCast, Nat.mul_one]
  rfl
theorem rd_l {w : World} {a : Option Addr} {n cap e : Nat} {bs : List (BitVec 8)} (h : Rd w a n bs) (he : e ≤ n) (hn : n ≤ cap) : Rd w (laB a cap e) (n - e) (bs.drop e) := by
  have h1 := rd_lh (cap := cap) h he (Nat.le_refl n) hn
  rw [List.take_of_length_le (by rw [List.length_drop, h.1]; exact Nat.le_refl _)] at h1
  exact h1
theorem rr_kind {w : World} {q o : Nat} {e1 p1 : Option Addr} {e2 e3 p2 p3 : Nat} {r n : Int} {c : BitVec 8} (h : RR w q (.slice e1 e2 e3) (.slice p1 p2 p3) r n) (hc : w.cell? ⟨q, o, none⟩ = some (.int .u8 (c.toNat : Int))) : False := by
  rw [cell_of_row _ _ _ _ _ _ h] at hc
  match o, hc with
  | 0, hc => cases hc
  | 1, hc => cases hc
  | 2, hc => cases hc
  | 3, hc => cases hc
  | o + 4, hc => simp at hc
set_option maxHeartbeats 4000000 in
set_option maxRecDepth 100000 in
theorem cut_any (a : Option Addr) (n cap : Nat) (bs : List (BitVec 8)) (w : World) (hr : Rd w a n bs) (hcap : n ≤ cap) (hm : cap ≤ 9223372036854775807) (hnil : a = none → cap = 0) (h6 : n ≤ 65536) :
    Calls Tryz.prog 37 #[.slice a n cap] w fun e w' => ∃ v, e = .returned (.tuple #[v, .bool (cutOk bs)]) ∧ (cutOk bs = true → ∃ q, v = .pointer (some ⟨q, 0, none⟩) ∧ w.heap.size ≤ q ∧ RX w' q (bs.take (ctE bs)) (ctP bs) (ctR bs) (ctN bs)) ∧ Below w.heap.size w w' := by
  have hbl := hr.1
  have HR := hide hr
  obtain ⟨m, hmm⟩ : ∃ m, n - 8 = m := ⟨_, rfl⟩
  obtain ⟨LA, hLA⟩ : ∃ LA, laB a cap m = LA := ⟨_, rfl⟩
  obtain ⟨LN, hLN⟩ : ∃ LN, n - m = LN := ⟨_, rfl⟩
  obtain ⟨LC, hLC⟩ : ∃ LC, cap - m = LC := ⟨_, rfl⟩
  have hsl : ∀ W, (Instr.sliceAt 24 (.slice a n cap) (some (.int .i64 (m : Int))) none none).run Tryz.prog W = .ok (.slice LA LN LC) W := fun W => by
    rw [← hLA, ← hLN, ← hLC]; exact slice_l8 a n cap m (by omega) hcap W
  have hrl : Rd w LA LN (bs.drop m) := by rw [← hLA, ← hLN]; exact rd_l hr (by omega) hcap
  have HN : Hid (Calls Tryz.prog 83 #[.slice LA LN LC] w fun e w' => ∃ g, e = .returned (.pointer (some ⟨g, 0, none⟩)) ∧ w.heap.size ≤ g ∧ Cur w' g (bs.drop m) 0 ∧ Below w.heap.size w w') :=
    newCursor_any LA LN LC _ w hrl (by omega) (by omega) (fun e => by rw [← hLA] at e; have := hnil (laB_nil e); omega)
  have HT : Hid (tailS bs = some (bs.drop m)) := by show _ = _; unfold tailS; rw [hbl, hmm]
  obtain ⟨R, hR⟩ : ∃ R, ctR bs = R := ⟨_, rfl⟩
  obtain ⟨N, hN⟩ : ∃ N, ctN bs = N := ⟨_, rfl⟩
  obtain ⟨S1, hS1⟩ : ∃ S, (fixS (tailS bs) 4).2 = S := ⟨_, rfl⟩
  obtain ⟨S2, hS2⟩ : ∃ S, (fixS S1 4).2 = S := ⟨_, rfl⟩
  have HF1 : Hid (∀ g W, Cst W g (some (bs.drop m)) → Calls Tryz.prog 84 #[.pointer (some ⟨g, 0, none⟩), .int .i64 4] W fun e w' => e = .returned (.int .u64 (R : Nat)) ∧ W.grownBy w' (some g) ∧ Cst w' g S1) := fun g W h => by
    have := fix_st g _ 4 W h
    rw [← HT.out] at this
    unfold ctR at hR
    rw [hR, hS1] at this; exact this
  have HF2 : Hid (∀ g W, Cst W g S1 → Calls Tryz.prog 84 #[.pointer (some ⟨g, 0, none⟩), .int .i64 4] W fun e w' => e = .returned (.int .u64 (N : Nat)) ∧ W.grownBy w' (some g) ∧ Cst w' g S2) := fun g W h => by
    have := fix_st g S1 4 W h
    unfold ctN at hN
    rw [hS1] at hN
    rw [hN, hS2] at this; exact this
  have HCA : Hid (cutA bs = decide (S2 = some [] ∧ 1 ≤ R ∧ R ≤ 64 ∧ 1 ≤ N ∧ N ≤ n)) := by show _ = _; unfold cutA; rw [hR, hN, hS1, hS2, hbl]
  have hmax : max ((n : Int) - 8) 0 = (m : Int) := by omega
  have hw8 : IntKind.i64.wrap ((n : Int) - 8) = (n : Int) - 8 := by rw [IntKind.wrap_i64]; omega
  have hwn : IntKind.u64.wrap (n : Int) = (n : Int) := by rw [IntKind.wrap_u64]; omega
  clear hrl hLA hLN hLC hS1 hS2 hr
  obtain ⟨CA, hCA⟩ : ∃ CA, cutA bs = CA := ⟨_, rfl⟩
  rw [hCA] at HCA
  have HCA2 := HCA
  go_enter Tryz.func37, Tryz.ntmps37
  go_upto_region 4 with (first
    | (have hlate := HC2; go_at_call 84; refine (HF2.out g _ HC2.out).mono ?_; rintro e w3 ⟨rfl, hg3, hs3⟩; have HC3 := hide hs3; have HB3 := hide (HB2.out.grown hg3 HB2.out.size (fun i e => by cases e; exact HGE.out)); clear hg3 hs3)
    | (go_at_call 84; refine (HF1.out g _ HC1.out).mono ?_; rintro e w2 ⟨rfl, hg2, hs2⟩; have HC2 := hide hs2; have HB2 := hide (HB1.out.grown hg2 HB1.out.size (fun i e => by cases e; exact HGE.out)); clear hg2 hs2)
    | (go_at_call 83; refine HN.out.mono ?_; rintro e w1 ⟨g, rfl, hge, hc, hb⟩; have HGE := hide hge; have HC1 : Hid (Cst w1 g (some (bs.drop m))) := ⟨0, hc⟩; have HB1 := hide hb; clear hge hc hb))
  go_cut [46] from 24 to 46 (fun s46 wx => s46 = .bool (!CA) ∧ Hid (Below w.heap.size w wx))
  case first =>
    have HE := hide (end_st g S2 _ HC3.out)
    by_cases h1 : S2 = some []
    · have HD : Hid (decide (S2 = some []) = true) := decide_eq_true h1
      by_cases h2 : (R : Int) < 1
      · have HX : Hid (CA = false) := by show _ = _; rw [HCA.out, decide_eq_false_iff_not]; omega
        go_wp2_with (go_at_call 85; refine HE.out.mono ?_; rintro e w4 ⟨⟨er, p, rfl, her⟩, hb4⟩; rw [HD.out] at her; have hfd := field_spot er p; have HB4 := hide (below_trans HB3.out hb4); clear hb4)
        go_meet
        case rel => exact ⟨by rw [HX.out]; rfl, HB4.out⟩
      by_cases h3 : (64 : Int) < (R : Int)
      · have HX : Hid (CA = false) := by show _ = _; rw [HCA.out, decide_eq_false_iff_not]; omega
        go_wp2_with (go_at_call 85; refine HE.out.mono ?_; rintro e w4 ⟨⟨er, p, rfl, her⟩, hb4⟩; rw [HD.out] at her; have hfd := field_spot er p; have HB4 := hide (below_trans HB3.out hb4); clear hb4)
        go_meet
        case rel => exact ⟨by rw [HX.out]; rfl, HB4.out⟩
      by_cases h4 : (N : Int) < 1
      · have HX : Hid (CA = false) := by show _ = _; rw [HCA.out, decide_eq_false_iff_not]; omega
        go_wp2_with (go_at_call 85; refine HE.out.mono ?_; rintro e w4 ⟨⟨er, p, rfl, her⟩, hb4⟩; rw [HD.out] at her; have hfd := field_spot er p; have HB4 := hide (below_trans HB3.out hb4); clear hb4)
        go_meet
        case rel => exact ⟨by rw [HX.out]; rfl, HB4.out⟩
      by_cases h5 : (n : Int) < (N : Int)
      · have HX : Hid (CA = false) := by show _ = _; rw [HCA.out, decide_eq_false_iff_not]; omega
        go_wp2_with (go_at_call 85; refine HE.out.mono ?_; rintro e w4 ⟨⟨er, p, rfl, her⟩, hb4⟩; rw [HD.out] at her; have hfd := field_spot er p; have HB4 := hide (below_trans HB3.out hb4); clear hb4)
        go_meet
        case rel => exact ⟨by rw [HX.out]; rfl, HB4.out⟩
      have HX : Hid (CA = true) := by show _ = _; rw [HCA.out, decide_eq_true_iff]; exact ⟨h1, by omega, by omega, by omega, by omega⟩
      go_wp2_with (go_at_call 85; refine HE.out.mono ?_; rintro e w4 ⟨⟨er, p, rfl, her⟩, hb4⟩; rw [HD.out] at her; have hfd := field_spot er p; have HB4 := hide (below_trans HB3.out hb4); clear hb4)
      go_meet
      case rel => exact ⟨by rw [HX.out]; refine congrArg Value.bool ?_; rw [decide_eq_false (p := (R : Int) < 1) (by omega), decide_eq_false (p := (64 : Int) < (R : Int)) (by omega), decide_eq_false (p := (N : Int) < 1) (by omega), decide_eq_false (p := n < N) (by omega)]; rfl, HB4.out⟩
    · have HD : Hid (decide (S2 = some []) = false) := decide_eq_false h1
      have HX : Hid (CA = false) := by show _ = _; rw [HCA.out, decide_eq_false_iff_not]; exact fun h => h1 h.1
      go_wp2_with (go_at_call 85; refine HE.out.mono ?_; rintro e w4 ⟨⟨er, p, rfl, her⟩, hb4⟩; rw [HD.out] at her; have hfd := field_spot er p; have HB4 := hide (below_trans HB3.out hb4); clear hb4)
      go_meet
      case rel => exact ⟨by rw [HX.out]; rfl, HB4.out⟩
  case rest =>
    obtain ⟨rfl, HBX⟩ := hcut
    clear HCA HF1 HF2 HN hsl hmax hwn
    cases CA with
    | false =>
      have HOK : Hid (cutOk bs = false) := by show _ = _; unfold cutOk cutB; rw [hCA]; rfl
      go_wp2_with fail
      go_ret2
      rw [HOK.out]
      exact ⟨_, rfl, (fun e => nomatch e), HBX.out⟩
    | true =>
      obtain ⟨wA, rfl⟩ : ∃ wA : World, wA = wc := ⟨_, rfl⟩
      obtain ⟨_, hR1, hR2, hN1, hN2⟩ : S2 = some [] ∧ 1 ≤ R ∧ R ≤ 64 ∧ 1 ≤ N ∧ N ≤ n := of_decide_eq_true HCA2.out.symm
      obtain ⟨M, hM⟩ : ∃ M, N - 1 = M := ⟨_, rfl⟩
      obtain ⟨D, hD⟩ : ∃ D, M / R = D := ⟨_, rfl⟩
      have hDM : D ≤ M := by rw [← hD]; exact Nat.div_le_self _ _
      have hGG : ctG bs = D + 1 := by unfold ctG; rw [hN, hR, hM, hD]
      have q1 : IntKind.i64.wrap (R : Int) = (R : Int) := by rw [IntKind.wrap_i64]; omega
      have q2 : IntKind.i64.wrap (N : Int) = (N : Int) := by rw [IntKind.wrap_i64]; omega
      have q3 : IntKind.i64.wrap ((N : Int) - 1) = (M : Int) := by rw [IntKind.wrap_i64]; omega
      have q4 : (M : Int).tdiv (R : Int) = (D : Int) := by rw [Int.tdiv_eq_ediv_of_nonneg (by omega), ← hD]; rfl
      have q5 : IntKind.i64.wrap (D : Int) = (D : Int) := by rw [IntKind.wrap_i64]; omega
      have q6 : IntKind.i64.wrap ((D : Int) + 1) = (D : Int) + 1 := by rw [IntKind.wrap_i64]; omega
      have q7 : ¬ (R : Int) = 0 := by omega
      have HRD : Hid (RR (wA.alloc (.cells #[.slice none 0 0, .slice none 0 0, .int .i64 (R : Int), .int .i64 (N : Int)] 106)) wA.heap.size (.slice none 0 0) (.slice none 0 0) (R : Int) (N : Int)) := heap_alloc_new _ _
      have HBA : Hid (Below w.heap.size w (wA.alloc (.cells #[.slice none 0 0, .slice none 0 0, .int .i64 (R : Int), .int .i64 (N : Int)] 106))) := HBX.out.alloc HBX.out.size _
      obtain ⟨d0, d1, d2, d3⟩ := HRD.out.cells
      have hD6 : D ≤ 65536 := by omega
      clear hD hDM
      have q8 : IntKind.i64.wrap (4 * ((D : Int) + 1)) = 4 * ((D : Int) + 1) := by rw [IntKind.wrap_i64]; omega
      have q9 : IntKind.i64.wrap ((n : Int) - 8 - 4 * ((D : Int) + 1)) = (n : Int) - 8 - 4 * ((D : Int) + 1) := by rw [IntKind.wrap_i64]; omega
      go_upto_region 7 with fail
      go_cut [9] from 53 to 63 (fun s9 wx => s9 = .int .i64 ((D : Int) + 1) ∧ Hid (Below (wA.alloc (.cells #[.slice none 0 0, .slice none 0 0, .int .i64 (R : Int), .int .i64 (N : Int)] 106)).heap.size (wA.alloc (.cells #[.slice none 0 0, .slice none 0 0, .int .i64 (R : Int), .int .i64 (N : Int)] 106)) wx))
      case first =>
        go_quiet (fail)
        go_wp2_with fail
        go_meet
        case rel => exact ⟨by first | rfl | simp, below_drewN' _ _ _⟩
      case rest =>
        obtain ⟨rfl, HBY⟩ := hcut
        by_cases he : (n : Int) - 8 - 4 * ((D : Int) + 1) < 0
        · have HOK : Hid (cutOk bs = false) := by show _ = _; unfold cutOk cutB; rw [hCA, hGG, decide_eq_false (by omega)]; rfl
          go_wp2_with fail
          go_ret2
          rw [HOK.out]
          exact ⟨_, rfl, (fun e => nomatch e), below_trans HBA.out HBY.out⟩
        · obtain ⟨E, hE⟩ : ∃ E : Nat, n - 8 - 4 * (D + 1) = E := ⟨_, rfl⟩
          have hct : ctE bs = E := by unfold ctE; rw [hGG, hbl]; exact hE
          have hcB : cutB bs = true := by unfold cutB; rw [hCA, hGG, hbl, Bool.true_and]; exact decide_eq_true (by omega)
          have q9' : IntKind.i64.wrap ((n : Int) - 8 - 4 * ((D : Int) + 1)) = (E : Int) := by rw [IntKind.wrap_i64]; omega
          have hen : E ≤ n := by omega
          have heni : (E : Int) ≤ (cap : Int) := by omega
          obtain ⟨P0, hP0⟩ : ∃ P, bs.drop E = P := ⟨_, rfl⟩
          obtain ⟨LA, hLA⟩ : ∃ LA, laB a cap E = LA := ⟨_, rfl⟩
          obtain ⟨LN, hLN⟩ : ∃ LN, n - E = LN := ⟨_, rfl⟩
          obtain ⟨LC, hLC⟩ : ∃ LC, cap - E = LC := ⟨_, rfl⟩
          have hsl : ∀ W, (Instr.sliceAt 24 (.slice a n cap) (some (.int .i64 (E : Int))) none none).run Tryz.prog W = .ok (.slice LA LN LC) W := fun W => by
            rw [← hLA, ← hLN, ← hLC]; exact slice_l8 a n cap E (by omega) hcap W
          have hrl : Rd w LA LN P0 := by rw [← hLA, ← hLN, ← hP0]; exact rd_l HR.out (by omega) hcap
          have HN : Hid (∀ W, Below w.heap.size w W → Calls Tryz.prog 83 #[.slice LA LN LC] W fun e w' => ∃ g, e = .returned (.pointer (some ⟨g, 0, none⟩)) ∧ W.heap.size ≤ g ∧ g < w'.heap.size ∧ CurD w' g w'.heap.size P0 0 ∧ (∀ a n c p e, Row w' g (.slice (some a) n c) p e → W.heap.size ≤ a.block) ∧ Below W.heap.size W w') := fun W hW =>
            newC_any LA LN LC _ W (hrl.below hW) (by omega) (by omega) (fun e => by rw [← hLA] at e; have := hnil (laB_nil e); omega)
          have HQS := hide HBX.out.size
          have HR1 := hide (HRD.out.below HBY.out)
          obtain ⟨e0, e1, e2, e3⟩ := HR1.out.cells
          have f0 := HR1.out.fz 0
          have HR2 := hide (HR1.out.set0 (.slice a E cap))
          have HBW : Hid (Below w.heap.size w wc) := below_trans HBA.out HBY.out
          have HB2 : Hid (Below w.heap.size w (wc.setCell ⟨wA.heap.size, 0, none⟩ (.slice a E cap))) := HBW.out.grown (grown_cell (World.grownBy.refl _ _) 0 _) HBW.out.size (fun i e => by cases e; exact HQS.out)
          have HS2 : Hid (wA.heap.size < (wc.setCell ⟨wA.heap.size, 0, none⟩ (.slice a E cap)).heap.size) := HR2.out.lt
          have HPT : Hid (ctP bs = tabS (D + 1) (some P0) ++ [(E : Int)]) := by show _ = _; unfold ctP; rw [hct, hGG, hP0]
          have HTK : Hid (bs.take (ctE bs) = bs.take E) := by show _ = _; rw [hct]
          clear hrl q1 q2 q3 q4 q5 d0 d1 d2 d3 q9 he
          go_wp2_with (go_at_call 83; refine (HN.out _ HB2.out).mono ?_; rintro e w5 ⟨g5, rfl, hge, hgl, hc5, hlo, hb5⟩; have HR5 := hide (HR2.out.below hb5); have HC5 : Hid (CstD w5 g5 w5.heap.size (some P0)) := ⟨0, hc5⟩; have HB5 := hide (below_trans HB2.out hb5); have HGE := hide (Nat.lt_of_lt_of_le HS2.out hge); have HGL := hide hgl; clear hge hgl hc5 hlo hb5)
          go_loopw [81] (fun s81 wr => ∃ (k : Nat) (pa : Option Addr) (pc : Nat), k ≤ D + 1 ∧ s81 = .int .i64 (k : Int) ∧ Hid (RR wr wA.heap.size (.slice a E cap) (.slice pa k pc) (R : Int) (N : Int)) ∧ Hid (OwnI wr w5.heap.size (.slice pa k pc) (tabS k (some P0))) ∧ Hid (CstD wr g5 w5.heap.size (tabL k (some P0))) ∧ Hid (Below w.heap.size w wr) ∧ Hid (w5.heap.size ≤ wr.heap.size)) (fun s81 _ => D + 1 - (intOf s81).toNat)
          case atStart => exact ⟨0, none, 0, Nat.zero_le _, rfl, HR5.out, ownI_none _ _, HC5.out, HB5.out, Nat.le_refl _⟩
          case round =>
            rename World => V0
            obtain ⟨k, pa, pc, hk, rfl, HRr, HOr, HCr, HBr, HSr⟩ := hrel
            by_cases hlt : k < D + 1
            · obtain ⟨S, hS⟩ : ∃ S, tabL k (some P0) = S := ⟨_, rfl⟩
              obtain ⟨X, hX⟩ : ∃ X, (fixS S 4).1 = X := ⟨_, rfl⟩
              have hX32 : X < 4294967296 := by rw [← hX]; exact fixS_lt S
              have hXw : IntKind.i64.wrap (X : Int) = (X : Int) := by rw [IntKind.wrap_i64]; omega
              have HTS : Hid (tabS (k + 1) (some P0) = tabS k (some P0) ++ [(X : Int)]) := by show _ = _; rw [tabS_snoc, hS, hX]
              have HTL : Hid (tabL (k + 1) (some P0) = (fixS S 4).2) := by show _ = _; rw [tabL_snoc, hS]
              rw [hS] at HCr
              have HFX : Hid (∀ W, CstD W g5 w5.heap.size S → Calls Tryz.prog 84 #[.pointer (some ⟨g5, 0, none⟩), .int .i64 4] W fun e w' => e = .returned (.int .u64 (X : Nat)) ∧ W.grownBy w' (some g5) ∧ CstD w' g5 w5.heap.size (fixS S 4).2) := fun W h => by
                have := fixD_any g5 w5.heap.size S 4 W h
                rw [hX] at this; exact this
              obtain ⟨TS, hTS⟩ : ∃ TS, tabS k (some P0) = TS := ⟨_, rfl⟩
              have hTSl : TS.length = k := by rw [← hTS]; exact tabS_len _ _
              rw [hTS] at HOr HTS
              clear hS hX hX32 hTS
              obtain ⟨_, e1, _, _⟩ := HRr.out.cells
              go_wp2_with fail
              go_region_law (first
                | (have HBA6 : Hid (Below w6.heap.size w6 (w6.alloc (.cells #[.int .i64 (X : Int)] 3))) := (Below.refl _ _).alloc (Nat.le_refl _) _
                   refine step_pushI rfl (.tmp 87) (.tmp 91) rfl w5.heap.size (.slice pa k pc) TS (by simp [Act.eval]) (HO6.out.below HBA6.out) ⟨w6.heap.size, 0, none⟩ 1 (X : Int) (by simp [Act.eval]) (by show World.cell? _ ⟨w6.heap.size, 0, none⟩ = _; rw [cell_of_row _ _ _ _ _ _ (heap_alloc_new _ _)]; rfl) (by omega) (Nat.le_trans HS6.out HBA6.out.size) ?_
                   intro v7 w7 ho7 hg7
                   obtain ⟨a7, c7, e7⟩ := ho7.shape
                   subst e7
                   have HO7 := hide ho7
                   have HG7 := hide hg7
                   have HR7 := hide ((HR6.out.below HBA6.out).grown HG7.out (fun e => by have := (HO6.out.lt _ e).1; have := HGE.out; have := HGL.out; omega))
                   have e17 := HR7.out.cells.2.1
                   have f17 := HR7.out.fz 1
                   clear ho7 hg7)
                | (go_simp; go_at_call 84; refine (HFX.out _ (HCr.out.keep (below_grown (Below.refl _ _).drew) (by simp) (fun b e => nomatch e))).mono ?_; rintro e w6 ⟨rfl, hg6, hs6⟩
                   have HG6 : Hid (V0.grownBy w6 (some g5)) := grown_trans (grown_any (below_grown (Below.refl _ _).drew) _) hg6
                   have HR6 := hide (HRr.out.grown HG6.out (fun e => by have := Option.some.inj e; have := HGE.out; omega))
                   have HC6 := hide hs6
                   have e16 := HR6.out.cells.2.1
                   have e16b := (HR6.out.below ((Below.refl _ _).alloc (Nat.le_refl _) (.cells #[.int .i64 (X : Int)] 3))).cells.2.1
                   have HO6 : Hid (OwnI w6 w5.heap.size (.slice pa k pc) TS) := ownI_keep HOr.out HG6.out (fun i e e2 => by have := (HOr.out.lt i e).1; have := Option.some.inj e2; have := HGL.out; omega)
                   have HS6 := hide (Nat.le_trans HSr.out HG6.out.size)
                   clear hg6 hs6))
              all_goals
                go_wp2_with fail
                go_roundw
                case rel =>
                  have HBA6 : Below w6.heap.size w6 (w6.alloc (.cells #[.int .i64 (X : Int)] 3)) := (Below.refl _ _).alloc (Nat.le_refl _) _
                  have hl : (TS ++ [(X : Int)]).length = k + 1 := by rw [List.length_append, hTSl]; rfl
                  have g8 : w7.grownBy (w7.setCell ⟨wA.heap.size, 1, none⟩ (.slice a7 (k + 1) c7)) (some wA.heap.size) := grown_cell (World.grownBy.refl _ _) 1 _
                  have ho7 := HO7.out
                  rw [hl] at ho7
                  have hHB6 : Below w.heap.size w w6 := HBr.out.grown HG6.out HBr.out.size (fun i e => by have := Option.some.inj e; have := HGE.out; have := HQS.out; omega)
                  refine ⟨k + 1, a7, c7, by omega, by go_num, ?_, ?_, ?_, ?_, ?_⟩
                  · exact HR7.out.set1 _
                  · rw [HTS.out]
                    exact ownI_keep ho7 g8 (fun i e e2 => by have := (ho7.lt i e).1; have := Option.some.inj e2; have := HGE.out; have := HGL.out; omega)
                  · rw [HTL.out]
                    exact ((HC6.out.keep (below_grown HBA6) (by simp) (fun b e => nomatch e)).keep HG7.out (fun e => by have := (HO6.out.lt _ e).1; have := HGL.out; omega) (fun b e => .inl (HO6.out.lt _ e).1)).keep g8 (fun e => by have := Option.some.inj e; have := HGE.out; omega) (fun b e => .inr (fun i c hc => by cases e; exact rr_kind HR7.out hc))
                  · exact ((below_trans hHB6 HBA6).grown HG7.out (Nat.le_trans hHB6.size HBA6.size) (fun i e => by have := (HO6.out.lt _ e).1; have := HGL.out; have := HGE.out; have := HQS.out; omega)).grown g8 (Nat.le_trans (Nat.le_trans hHB6.size HBA6.size) HG7.out.size) (fun i e => by have := Option.some.inj e; have := HQS.out; omega)
                  · exact Nat.le_trans (Nat.le_trans (Nat.le_trans HS6.out HBA6.size) HG7.out.size) g8.size
                case measure => (simp [intOf] <;> omega)
            · obtain rfl : k = D + 1 := by omega
              obtain ⟨TS, hTS⟩ : ∃ TS, tabS (D + 1) (some P0) = TS := ⟨_, rfl⟩
              have hTSl : TS.length = D + 1 := by rw [← hTS]; exact tabS_len _ _
              obtain ⟨PL, hPL⟩ : ∃ PL, TS ++ [(E : Int)] = PL := ⟨_, rfl⟩
              have hn7 : PL.length = D + 2 := by rw [← hPL, List.length_append, hTSl]; rfl
              obtain ⟨x0, hx0⟩ : ∃ x0, PL.getD 0 0 = x0 := ⟨_, rfl⟩
              rw [hTS] at HOr HPT
              rw [hPL] at HPT
              have HOK : Hid (cutOk bs = ((x0 == 0) && upI PL)) := by show _ = _; unfold cutOk cutC; rw [hcB, HPT.out, hx0, Bool.true_and]
              have HBAr : Hid (Below V0.heap.size V0 (V0.alloc (.cells #[.int .i64 (E : Int)] 3))) := (Below.refl _ _).alloc (Nat.le_refl _) _
              obtain ⟨_, e1, _, _⟩ := HRr.out.cells
              have e1b := (HRr.out.below HBAr.out).cells.2.1
              have HPL := hide hPL
              have HN7 := hide hn7
              have HX0 := hide hx0
              have HTL := hide hTSl
              have hi0 : (0 : Int) < (PL.length : Int) := by omega
              have hi1 : (0 : Int) < (D : Int) + 2 := by omega
              clear hTS hPL hn7 hx0 hTSl
              cases hxb : (x0 == 0) with
              | true =>
                rw [hxb, Bool.true_and] at HOK
                obtain ⟨UP, hUP⟩ : ∃ UP, upI PL = UP := ⟨_, rfl⟩
                rw [hUP] at HOK
                go_wp2_with (first
                  | (at_builtin; refine pushI _ rfl _ _ rfl w5.heap.size (.slice pa (D + 1) pc) TS rfl (HOr.out.below HBAr.out) ⟨V0.heap.size, 0, none⟩ 1 (E : Int) rfl (by show World.cell? _ ⟨V0.heap.size, 0, none⟩ = _; rw [cell_of_row _ _ _ _ _ _ (heap_alloc_new _ _)]; rfl) (by have := HTL.out; omega) (Nat.le_trans HSr.out HBAr.out.size) ?_
                     intro v7 w7 ho7 hg7
                     rw [HPL.out] at ho7
                     obtain ⟨a7, c7, e7⟩ := ho7.shape
                     subst e7
                     have HR7 := hide ((HRr.out.below HBAr.out).grown hg7 (fun e => by have := (HOr.out.lt _ e).1; have := HGE.out; have := HGL.out; omega))
                     have e17 := HR7.out.cells.2.1
                     have f17 := HR7.out.fz 1
                     have HR8 := hide (HR7.out.set1 (.slice a7 PL.length c7))
                     have e18 := HR8.out.cells.2.1
                     have ho8 := ownI_keep ho7 (grown_cell (World.grownBy.refl _ _) 1 (.slice a7 PL.length c7) : w7.grownBy (w7.setCell ⟨wA.heap.size, 1, none⟩ (.slice a7 PL.length c7)) (some wA.heap.size)) (fun i e e2 => by have := (ho7.lt i e).1; have := Option.some.inj e2; have := HGE.out; have := HGL.out; omega)
                     have HRI := hide (ho8.rd (by have := HN7.out; omega))
                     obtain ⟨b8, o8, ha8, _, hc8⟩ := HRI.out.2.2 (by have := HN7.out; omega)
                     subst ha8
                     have i8 := hc8 0 (by have := HN7.out; omega)
                     rw [HX0.out, Nat.add_zero] at i8
                     have HC7 : Hid (PL.length ≤ c7) := (by rcases ho8.2 with ⟨h1, _⟩ | ⟨g, c, cur, h1, _, _, h2, _⟩; exact absurd h1 (by simp); (simp only [Value.slice.injEq] at h1; obtain ⟨_, _, rfl⟩ := h1; exact h2))
                     have HB8 : Hid (Below w.heap.size w (w7.setCell ⟨wA.heap.size, 1, none⟩ (.slice (some ⟨b8, o8, none⟩) PL.length c7))) := ((below_trans HBr.out HBAr.out).grown hg7 (Nat.le_trans HBr.out.size HBAr.out.size) (fun i e => by have := (HOr.out.lt _ e).1; have := HGL.out; have := HGE.out; have := HQS.out; omega)).grown (grown_cell (World.grownBy.refl _ _) 1 _) (Nat.le_trans (Nat.le_trans HBr.out.size HBAr.out.size) hg7.size) (fun i e => by have := Option.some.inj e; have := HQS.out; omega)
                     have HSO := hide (sorted_any (some ⟨b8, o8, none⟩) PL.length c7 PL _ HRI.out)
                     clear ho7 hg7 ho8 hc8)
                  | (go_at_call 86; refine HSO.out.mono ?_; rintro e w9 ⟨rfl, hb9⟩; rw [hUP]; have HB9 := hide hb9; clear hb9))
                go_ret2
                rw [HOK.out]
                refine ⟨_, rfl, fun _ => ⟨wA.heap.size, rfl, HQS.out, ?_⟩, below_trans HB8.out HB9.out⟩
                rw [HTK.out, HPT.out]
                have hE9 : (bs.take E).length = E := by rw [List.length_take, hbl]; omega
                refine ⟨a, cap, some ⟨b8, o8, none⟩, c7, ?_, ?_, ?_, hm, hnil, ?_, ?_⟩
                · rw [hE9, hR, hN]; exact HR8.out.below HB9.out
                · rw [hE9]; exact (HR.out.cut E hen).below (below_trans HB8.out HB9.out)
                · rw [hE9]; omega
                · exact HRI.out.below HB9.out
                · exact HC7.out
              | false =>
                rw [hxb, Bool.false_and] at HOK
                go_wp2_with (first
                  | (at_builtin; refine pushI _ rfl _ _ rfl w5.heap.size (.slice pa (D + 1) pc) TS rfl (HOr.out.below HBAr.out) ⟨V0.heap.size, 0, none⟩ 1 (E : Int) rfl (by show World.cell? _ ⟨V0.heap.size, 0, none⟩ = _; rw [cell_of_row _ _ _ _ _ _ (heap_alloc_new _ _)]; rfl) (by have := HTL.out; omega) (Nat.le_trans HSr.out HBAr.out.size) ?_
                     intro v7 w7 ho7 hg7
                     rw [HPL.out] at ho7
                     obtain ⟨a7, c7, e7⟩ := ho7.shape
                     subst e7
                     have HR7 := hide ((HRr.out.below HBAr.out).grown hg7 (fun e => by have := (HOr.out.lt _ e).1; have := HGE.out; have := HGL.out; omega))
                     have e17 := HR7.out.cells.2.1
                     have f17 := HR7.out.fz 1
                     have HR8 := hide (HR7.out.set1 (.slice a7 PL.length c7))
                     have e18 := HR8.out.cells.2.1
                     have ho8 := ownI_keep ho7 (grown_cell (World.grownBy.refl _ _) 1 (.slice a7 PL.length c7) : w7.grownBy (w7.setCell ⟨wA.heap.size, 1, none⟩ (.slice a7 PL.length c7)) (some wA.heap.size)) (fun i e e2 => by have := (ho7.lt i e).1; have := Option.some.inj e2; have := HGE.out; have := HGL.out; omega)
                     have HRI := hide (ho8.rd (by have := HN7.out; omega))
                     obtain ⟨b8, o8, ha8, _, hc8⟩ := HRI.out.2.2 (by have := HN7.out; omega)
                     subst ha8
                     have i8 := hc8 0 (by have := HN7.out; omega)
                     rw [HX0.out, Nat.add_zero] at i8
                     have HB8 : Hid (Below w.heap.size w (w7.setCell ⟨wA.heap.size, 1, none⟩ (.slice (some ⟨b8, o8, none⟩) PL.length c7))) := ((below_trans HBr.out HBAr.out).grown hg7 (Nat.le_trans HBr.out.size HBAr.out.size) (fun i e => by have := (HOr.out.lt _ e).1; have := HGL.out; have := HGE.out; have := HQS.out; omega)).grown (grown_cell (World.grownBy.refl _ _) 1 _) (Nat.le_trans (Nat.le_trans HBr.out.size HBAr.out.size) hg7.size) (fun i e => by have := Option.some.inj e; have := HQS.out; omega)
                     clear ho7 hg7 ho8 hc8))
                go_ret2
                rw [HOK.out]
                exact ⟨_, rfl, (fun e => nomatch e), HB8.out⟩
end Go.Proofs.YthdblnfohbldcaaGreat.Bl
/-
  isRight: whether each group is just its entries.
-/
namespace Go.Proofs.YthdblnfohbldcaaGreat.Bl
open Go.ChangeShapes Go.WideShapes Go.ChangeAt Go.RowKit
open Go.Proofs.YthdblnfohbldcaaGreat.Base Go.Proofs.YthdblnfohbldcaaGreat.Nums Go.Proofs.YthdblnfohbldcaaGreat.Curs
open Go.Proofs.YthdblnfohbldcaaGreat.Fa (St Cst)
set_option linter.unusedVariables false
/-- What is still to be asked of a group. -/
def tailB (E : List (BitVec 8)) (ps : List Int) (r n f g d : Nat) (last key : ByteArray) (s : St) : Bool :=
  rises last (entsW d key s).1 && decide ((entsW d key s).2 = some []) && rightF E ps r n f (g + 1) (lastK last (entsW d key s).1)
theorem tailB_step (E : List (BitVec 8)) (ps : List Int) (r n f g d : Nat) (last key : ByteArray) (s : St) :
    tailB E ps r n f g (d + 1) last key s = (decide (0 ≤ order (txt (nextW key s).1.1) (txt last)) && tailB E ps r n f g d (nextW key s).1.1 (nextW key s).1.1 (nextW key s).2) := by
  unfold tailB
  rw [show entsW (d + 1) key s = ((nextW key s).1 :: (entsW d (nextW key s).1.1 (nextW key s).2).1, (entsW d (nextW key s).1.1 (nextW key s).2).2) from rfl]
  simp only [rises, lastK, Bool.and_assoc]
theorem tailB_zero (E : List (BitVec 8)) (ps : List Int) (r n f g : Nat) (last key : ByteArray) (s : St) :
    tailB E ps r n f g 0 last key s = (decide (s = some []) && rightF E ps r n f (g + 1) last) := by
  unfold tailB
  rw [show entsW 0 key s = ([], s) from rfl]
  simp only [rises, lastK, Bool.true_and]
theorem rightF_tail (E : List (BitVec 8)) (ps : List Int) (r n f g : Nat) (last : ByteArray) : rightF E ps r n (f + 1) g last = tailB E ps r n f g (gszN r n g) last ⟨#[]⟩ (some (grpL E ps g)) := rfl
set_option maxHeartbeats 4000000 in
set_option maxRecDepth 100000 in
theorem right_any (q : Nat) (E : List (BitVec 8)) (ps : List Int) (r n G : Nat) (w : World) (h : RX w q E ps r n) (hp : PsOk E ps) (hG : ps.length = G + 1) (hgr : ∀ g, g < G → g * r < n) (hE : E.length ≤ 65536) (hG2 : G ≤ 65536) (hr1 : 1 ≤ r) (hr2 : r ≤ 64) (hn : n ≤ 65536) :
    Calls Tryz.prog 38 #[.pointer (some ⟨q, 0, none⟩)] w fun e w' => e = .returned (.bool (rightF E ps r n G 0 ⟨#[]⟩)) ∧ Below w.heap.size w w' := by
  have HWL : Hid (∀ g W, g < G → Below w.heap.size w W → Calls Tryz.prog 57 #[.pointer (some ⟨q, 0, none⟩), .int .i64 (g : Int)] W fun e w' => ∃ k c, e = .returned (.pointer (some ⟨k, 0, none⟩)) ∧ WK w' k c ⟨#[]⟩ ∧ W.heap.size ≤ c ∧ c < k ∧ Cst w' c (some (grpL E ps g)) ∧ Below W.heap.size W w') := fun g W hg hW =>
    walk_any q g E ps r n W (h.below hW) hp (by omega) hE (by omega)
  have HGR : Hid (∀ W, Below w.heap.size w W → Calls Tryz.prog 87 #[.pointer (some ⟨q, 0, none⟩)] W fun e w' => e = .returned (.int .i64 (G : Nat)) ∧ w' = W) := fun W hW => by
    obtain ⟨ea, ec, pa, pc, h1, _⟩ := h.below hW
    rw [hG] at h1
    exact groups_any q _ pa G pc _ _ W h1 (by omega)
  have HRC : Hid (∀ W, Below w.heap.size w W → W.cell? ⟨q, 2, none⟩ = some (.int .i64 (r : Int)) ∧ W.cell? ⟨q, 3, none⟩ = some (.int .i64 (n : Int))) := fun W hW => by
    obtain ⟨ea, ec, pa, pc, h1, _⟩ := h.below hW
    exact ⟨h1.cells.2.2.1, h1.cells.2.2.2⟩
  have HLT := hide hgr
  clear h hp hgr hG hE
  go_enter Tryz.func38, Tryz.ntmps38
  go_wp2_with (go_at_call 87; refine (HGR.out _ (Below.refl _ _)).mono ?_; rintro e w ⟨rfl, rfl⟩)
  go_loopw [3, 10] (fun s3 s10 wr => ∃ (g : Nat) (last : ByteArray), g ≤ G ∧ s10 = .int .i64 (g : Int) ∧ s3 = .string last ∧ Hid (last.size ≤ 1024) ∧ Hid (rightF E ps r n G 0 ⟨#[]⟩ = rightF E ps r n (G - g) g last) ∧ Hid (Below w.heap.size w wr)) (fun _ s10 _ => G - (intOf s10).toNat)
  case atStart => exact ⟨0, ⟨#[]⟩, Nat.zero_le _, rfl, rfl, Nat.zero_le _, rfl, Below.refl _ _⟩
  case round =>
    rename World => V0
    obtain ⟨g, last, hg, rfl, rfl, HLS, HRF, HB⟩ := hrel
    by_cases hlt : g < G
    · obtain ⟨f, hf⟩ : ∃ f, G - g = f + 1 := ⟨G - g - 1, by omega⟩
      obtain ⟨m, hm⟩ : ∃ m, gszN r n g = m := ⟨_, rfl⟩
      have HT : Hid (rightF E ps r n G 0 ⟨#[]⟩ = tailB E ps r n f g m last ⟨#[]⟩ (some (grpL E ps g))) := by
        show _ = _
        rw [HRF.out, hf, rightF_tail, hm]
      have hgn := HLT.out g hlt
      obtain ⟨gr, hgr⟩ : ∃ gr, g * r = gr := ⟨_, rfl⟩
      have hgri : (g : Int) * (r : Int) = (gr : Int) := by rw [← hgr]; push_cast; rfl
      unfold gszN at hm
      rw [hgr] at hm hgn
      have hw1 : IntKind.i64.wrap ((g : Int) * (r : Int)) = (gr : Int) := by rw [hgri, IntKind.wrap_i64]; omega
      have hw2 : IntKind.i64.wrap ((n : Int) - (gr : Int)) = (n : Int) - (gr : Int) := by rw [IntKind.wrap_i64]; omega
      have hmm : min (r : Int) ((n : Int) - (gr : Int)) = (m : Int) := by omega
      have hm1 : m ≤ 64 := by omega
      have HF : Hid (f = G - (g + 1)) := by show _ = _; omega
      clear hgr hgri hm hgn hf
      go_upto_region 6 with (go_at_call 57; refine (HWL.out g _ hlt HB.out).mono ?_; rintro e w1 ⟨k, c, rfl, hk, hc1, hc2, hc3, hb⟩; have HK := hide hk; have H1 := hide (Nat.le_trans HB.out.size hc1); have H2 := hide hc2; have HC := hide hc3; have HB1 := hide (below_trans HB.out hb); clear hk hc1 hc2 hc3 hb)
      obtain ⟨rc2, rc3⟩ := HRC.out _ HB1.out
      go_cut [31, 32] from 16 to 32 (fun s31 s32 wx => s31 = .int .i64 (m : Int) ∧ s32 = .int .i64 0 ∧ Hid (Below w1.heap.size w1 wx))
      case first =>
        go_quiet (fail)
        go_wp2_with fail
        go_meet
        case rel => exact ⟨by first | rfl | rw [hmm], rfl, below_drewN' _ _ _⟩
      case rest =>
        obtain ⟨rfl, rfl, HBX⟩ := hcut
        clear hw1 hw2 hmm rc2 rc3
        go_wp2_with fail
        go_loopw [3, 32] (fun s3 s32 wr => ∃ (j : Nat) (lastj key : ByteArray) (s : St), j ≤ m ∧ s32 = .int .i64 (j : Int) ∧ s3 = .string lastj ∧ Hid (WK wr k c key) ∧ Hid (Cst wr c s) ∧ Hid (rightF E ps r n G 0 ⟨#[]⟩ = tailB E ps r n f g (m - j) lastj key s) ∧ Hid (lastj.size ≤ 1024) ∧ Hid (key.size ≤ 1024) ∧ Hid (Below w.heap.size w wr)) (fun _ s32 _ => m - (intOf s32).toNat)
        case atStart => exact ⟨0, last, ⟨#[]⟩, _, Nat.zero_le _, rfl, rfl, HK.out.below HBX.out, HC.out.below HBX.out, HT.out, HLS.out, Nat.zero_le _, below_trans HB1.out HBX.out⟩
        case round =>
          rename World => V1
          obtain ⟨j, lastj, key, s, hj, rfl, rfl, HKj, HCj, HTj, HLj, HKS, HBj⟩ := hrel
          by_cases hjm : j < m
          · obtain ⟨d, hd⟩ : ∃ d, m - j = d + 1 := ⟨m - j - 1, by omega⟩
            obtain ⟨X, hX⟩ : ∃ X, (nextW key s).1.1 = X := ⟨_, rfl⟩
            obtain ⟨Y, hY⟩ : ∃ Y, (nextW key s).1.2 = Y := ⟨_, rfl⟩
            obtain ⟨s', hs'⟩ : ∃ Y, (nextW key s).2 = Y := ⟨_, rfl⟩
            have HNX := hide (next_any k c key s V1 HKj.out HCj.out (by have := H2.out; omega) HKS.out)
            have HXS : Hid (X.size ≤ 1024) := by rw [← hX]; exact (next_small key s HKS.out).1
            have HTn : Hid (rightF E ps r n G 0 ⟨#[]⟩ = (decide (0 ≤ order (txt X) (txt lastj)) && tailB E ps r n f g d X X s')) := by
              show _ = _
              rw [HTj.out, hd, tailB_step, hX, hs']
            rw [hX, hY, hs'] at HNX
            have HCP := hide (fun W => compare_any X lastj W (by have := HXS.out; omega) (by have := HLj.out; omega))
            obtain ⟨od, hod⟩ : ∃ od, order (txt X) (txt lastj) = od := ⟨_, rfl⟩
            rw [hod] at HCP HTn
            have HD : Hid (d = m - (j + 1)) := by show _ = _; omega
            clear hX hY hs' hod hd
            by_cases hc : od < 0
            · have HF0 : Hid (rightF E ps r n G 0 ⟨#[]⟩ = false) := by show _ = _; rw [HTn.out, decide_eq_false (by omega)]; rfl
              go_wp2_with (first
                | (go_at_call 58; refine HNX.out.mono ?_; rintro e w2 ⟨rfl, hk2, hc2, hf2⟩; have HB2 : Hid (Below w.heap.size w w2) := hf2.toBelow HBj.out (fun i e => by have := H1.out; have := H2.out; omega); clear hk2 hc2 hf2)
                | (go_at_call 59; refine (HCP.out _).mono ?_; rintro e w3 ⟨rfl, hb3⟩; have HB3 := hide (below_trans HB2.out hb3); clear hb3))
              go_ret
              exact ⟨ret_bool HF0.out.symm, HB3.out⟩
            · have HTm : Hid (rightF E ps r n G 0 ⟨#[]⟩ = tailB E ps r n f g (m - (j + 1)) X X s') := by show _ = _; rw [HTn.out, decide_eq_true (by omega), Bool.true_and, HD.out]
              go_wp2_with (first
                | (go_at_call 58; refine HNX.out.mono ?_; rintro e w2 ⟨rfl, hk2, hc2, hf2⟩; have HB2 : Hid (Below w.heap.size w w2) := hf2.toBelow HBj.out (fun i e => by have := H1.out; have := H2.out; omega); have HK2 := hide hk2; have HC2 := hide hc2; clear hk2 hc2 hf2)
                | (go_at_call 59; refine (HCP.out _).mono ?_; rintro e w3 ⟨rfl, hb3⟩; have HB3 := hide (below_trans HB2.out hb3); have HK3 := hide (HK2.out.below hb3); have HC3 := hide (HC2.out.below hb3); clear hb3))
              go_roundw
              case rel => exact ⟨j + 1, X, X, s', by omega, by go_num, rfl, HK3.out, HC3.out, HTm.out, HXS.out, HXS.out, HB3.out⟩
              case measure => (simp [intOf] <;> omega)
          · obtain rfl : j = m := by omega
            have HTz : Hid (rightF E ps r n G 0 ⟨#[]⟩ = (decide (s = some []) && rightF E ps r n f (g + 1) lastj)) := by show _ = _; rw [HTj.out, Nat.sub_self, tailB_zero]
            have HE := hide (end_st c s V1 HCj.out)
            obtain ⟨k0, k1⟩ := HKj.out.cells
            by_cases hs : s = some []
            · have HD : Hid (decide (s = some []) = true) := decide_eq_true hs
              have HTy : Hid (rightF E ps r n G 0 ⟨#[]⟩ = rightF E ps r n (G - (g + 1)) (g + 1) lastj) := by show _ = _; rw [HTz.out, HD.out, Bool.true_and, HF.out]
              go_wp2_with (go_at_call 85; refine HE.out.mono ?_; rintro e w4 ⟨⟨er, p, rfl, her⟩, hb4⟩; rw [HD.out] at her; have hfd := field_spot er p; have HB4 := hide (below_trans HBj.out hb4); clear hb4)
              go_roundw
              case rel => exact ⟨g + 1, lastj, by omega, by go_num, rfl, HLj.out, HTy.out, HB4.out⟩
              case measure => (simp [intOf] <;> omega)
            · have HD : Hid (decide (s = some []) = false) := decide_eq_false hs
              have HTy : Hid (rightF E ps r n G 0 ⟨#[]⟩ = false) := by show _ = _; rw [HTz.out, HD.out, Bool.false_and]
              go_wp2_with (go_at_call 85; refine HE.out.mono ?_; rintro e w4 ⟨⟨er, p, rfl, her⟩, hb4⟩; rw [HD.out] at her; have hfd := field_spot er p; have HB4 := hide (below_trans HBj.out hb4); clear hb4)
              go_ret
              exact ⟨ret_bool HTy.out.symm, HB4.out⟩
    · obtain rfl : g = G := by omega
      have HF0 : Hid (rightF E ps r n g 0 ⟨#[]⟩ = true) := by show _ = _; rw [HRF.out, Nat.sub_self]; rfl
      go_wp2_with fail
      go_ret
      exact ⟨ret_bool HF0.out.symm, HB.out⟩
end Go.Proofs.YthdblnfohbldcaaGreat.Bl
