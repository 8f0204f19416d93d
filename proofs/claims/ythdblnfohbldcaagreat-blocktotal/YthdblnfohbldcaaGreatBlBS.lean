/-
  A builder that has gathered the entries L: New, Add, Size, Len, Finish.
-/
import Derived.Test.YthdblnfohbldcaaGreatBlBackM
import Derived.Test.YthdblnfohbldcaaGreatBlAdd
import Derived.Test.YthdblnfohbldcaaGreatBlTile
namespace Go.Proofs.YthdblnfohbldcaaGreat.Bl
open Go.ChangeShapes Go.WideShapes Go.ChangeAt Go.RowKit
open Go.Proofs.YthdblnfohbldcaaGreat.Base Go.Proofs.YthdblnfohbldcaaGreat.Nums
set_option linter.unusedVariables false
/-- A builder of the entries L stands at q, its memory from base on. -/
def BS (w : World) (q base r : Nat) (m : Int) (L : List En) : Prop := ∃ ev pv, BB w q (r : Int) m ev pv (L.length : Int) (lastK ⟨#[]⟩ L) ∧ Own w base ev (esL r L) ∧ OwnI w base pv (psL r L)
/-- Entries that a builder may have. -/
def OkB (r : Nat) (L : List En) : Prop := Small L ∧ rises ⟨#[]⟩ L = true ∧ (rawE r L).length ≤ 65536
def addA (r : Nat) (m : Int) (L : List En) (key value : ByteArray) : Int := addE (r : Int) m (esL r L).length (psL r L).length L.length (lastK ⟨#[]⟩ L) key value
/-- The entries behind an Add. -/
def addL (r : Nat) (m : Int) (L : List En) (key value : ByteArray) : List En := if addA r m L key value = 0 then L ++ [(key, value)] else L
/-- The blocks that a builder at q may turn. -/
def BF (w : World) (q base : Nat) (i : Nat) : Prop := i = q ∨ (base ≤ i ∧ (Ty w (some i) 5 ∨ Ty w (some i) 3))
theorem rawE_len (r : Nat) (L : List En) : (rawE r L).length = (esL r L).length + 4 * grpN r L.length + 8 := by unfold rawE; rw [rawL_len, psL_len]
theorem grpN_zero (r : Nat) (h : 0 < r) : grpN r 0 = 0 := by unfold grpN; exact Nat.div_eq_of_lt (by omega)
theorem okB_nil (r : Nat) (h : 0 < r) : OkB r [] := ⟨(fun e he => absurd he List.not_mem_nil), rfl, by rw [rawE_len]; show 0 + 4 * grpN r 0 + 8 ≤ 65536; rw [grpN_zero r h]; omega⟩
theorem lastK_small {L : List En} (h : Small L) : (lastK ⟨#[]⟩ L).size ≤ 1024 := by
  rcases List.eq_nil_or_concat L with rfl | ⟨x, e, rfl⟩
  · exact Nat.zero_le _
  · rw [List.concat_eq_append, lastK_snoc]
    exact (h e (by rw [List.concat_eq_append]; exact List.mem_append_right _ (List.mem_singleton.2 rfl))).1
theorem ok_few {r : Nat} {L : List En} (h : OkB r L) : (esL r L).length ≤ 65528 ∧ 3 * L.length ≤ (esL r L).length ∧ 4 * grpN r L.length ≤ 65528 := by
  have h1 := rawE_len r L
  have h2 := pos_ge r L h.1 L.length (Nat.le_refl _)
  have h3 := h.2.2
  have h4 : pos r L L.length = (esL r L).length := rfl
  omega
theorem ok_add {r : Nat} {m : Int} {L : List En} {key value : ByteArray} (h : OkB r L) (hr : 0 < r) (hm : m ≤ 65536) (ha : addA r m L key value = 0) : OkB r (L ++ [(key, value)]) := by
  unfold addA addE at ha
  by_cases h1 : 1024 < key.size ∨ 1024 < value.size
  · rw [if_pos h1] at ha; exact absurd ha (by decide)
  rw [if_neg h1] at ha
  by_cases h2 : order (txt key) (txt (lastK ⟨#[]⟩ L)) < 0
  · rw [if_pos h2] at ha; exact absurd ha (by decide)
  rw [if_neg h2] at ha
  obtain ⟨tb, htb⟩ : ∃ tb, restB L.length (psL r L).length (r : Int) = tb := ⟨_, rfl⟩
  have hes := esL_snoc r L key value hr
  have hps := psL_snoc r L (key, value) hr
  rw [htb] at ha hes hps
  refine ⟨?_, ?_, ?_⟩
  · intro e he
    rcases List.mem_append.1 he with h3 | h3
    · exact h.1 e h3
    · rw [List.mem_singleton.1 h3]; exact ⟨by show key.size ≤ 1024; omega, by show value.size ≤ 1024; omega⟩
  · rw [rises_snoc, h.2.1, Bool.true_and]
    exact decide_eq_true (by show 0 ≤ order (txt key) _; omega)
  · unfold rawE
    rw [rawL_len, hes, hps]
    have hpl : (plB tb (esL r L).length (psL r L)).length * 4 = 4 * (psL r L).length + roomB tb := by
      unfold plB roomB
      cases tb with
      | true => simp only [if_true, List.length_append, List.length_cons, List.length_nil]; omega
      | false => simp only [Bool.false_eq_true, if_false]; omega
    rw [List.length_append]
    by_cases hn : 0 < L.length
    · have h4 : ¬ (0 < L.length ∧ m < ((sizeB (esL r L).length (psL r L).length L.length + (entL (cmB tb (lastK ⟨#[]⟩ L) key) key value).length + roomB tb : Nat) : Int)) := fun h5 => by rw [if_pos h5] at ha; exact absurd ha (by decide)
      unfold sizeB at h4
      rw [if_neg (by omega)] at h4
      omega
    · have h5 : L = [] := List.length_eq_zero_iff.1 (by omega)
      have h6 := entL_len (cmB tb (lastK ⟨#[]⟩ L) key) key value (cmB_le _ _ _) (by omega) (by omega)
      have h7 : roomB tb ≤ 4 := by unfold roomB; split <;> omega
      have h8 : (esL r L).length = 0 := by rw [h5]; rfl
      have h9 : (psL r L).length = 0 := by rw [psL_len, h5]; exact grpN_zero r hr
      omega
theorem BS.keep {w w' : World} {q base r : Nat} {m : Int} {L : List En} {o : Option Nat} (h : BS w q base r m L) (hg : w.grownBy w' o) (hne : ∀ i, o = some i → i ≠ q ∧ ¬ Ty w (some i) 5 ∧ ¬ Ty w (some i) 3) : BS w' q base r m L := by
  obtain ⟨ev, pv, h1, h2, h3⟩ := h
  refine ⟨ev, pv, h1.grown hg (fun e => (hne _ e).1 rfl), Base.keep h2 hg ?_, ownI_keep h3 hg ?_⟩
  · intro i j e1 e2 e3
    subst e3
    exact (hne i e2).2.1 (fun k hk => own_ty h2 k (by rw [e1]; exact hk))
  · intro i e1 e2
    exact (hne i e2).2.2 (fun k hk => own_ty h3 k (by rw [e1]; exact hk))
theorem BS.below {w w' : World} {q base r : Nat} {m : Int} {L : List En} (h : BS w q base r m L) (hb : Below w.heap.size w w') : BS w' q base r m L := h.keep (below_grown hb) (fun i e => nomatch e)
/-- NewBuilder. -/
theorem new_bs (r : Nat) (m : Int) (w : World) (h : 1 ≤ r ∧ r ≤ 64 ∧ 64 ≤ m ∧ m ≤ 65536) :
    Calls Tryz.prog 19 #[.int .i64 (r : Int), .int .i64 m] w fun e w' => e = .returned (.tuple #[.pointer (some ⟨w.heap.size, 0, none⟩), .int .i64 0]) ∧ BS w' w.heap.size (w.heap.size + 1) r m [] ∧ w'.heap.size = w.heap.size + 1 ∧ Below w.heap.size w w' := by
  have h1 : ¬ (r : Int) < 1 := by omega
  have h2 : ¬ 64 < (r : Int) := by omega
  have h3 : ¬ m < 64 := by omega
  have h4 : ¬ 65536 < m := by omega
  have HB : Hid (BB (w.alloc (.cells #[.int .i64 (r : Int), .int .i64 m, .slice none 0 0, .slice none 0 0, .int .i64 0, .string ⟨#[]⟩] 108)) w.heap.size (r : Int) m (.slice none 0 0) (.slice none 0 0) 0 ⟨#[]⟩) := heap_alloc_new _ _
  have HW : Hid (Below w.heap.size w (w.alloc (.cells #[.int .i64 (r : Int), .int .i64 m, .slice none 0 0, .slice none 0 0, .int .i64 0, .string ⟨#[]⟩] 108))) := (Below.refl _ _).alloc (Nat.le_refl _) _
  have HP : Hid (psL r [] = []) := by show _ = _; refine List.length_eq_zero_iff.1 ?_; rw [psL_len]; exact grpN_zero r (by omega)
  go_enter Tryz.func19, Tryz.ntmps19
  go_wp2_with fail
  go_ret2
  refine ⟨rfl, ⟨_, _, HB.out, own_none _ _, ?_⟩, by simp, HW.out⟩
  rw [HP.out]
  exact ownI_none _ _
/-- Add. -/
theorem add_bs (q base r : Nat) (m : Int) (L : List En) (key value : ByteArray) (w : World) (h : BS w q base r m L) (hok : OkB r L) (hq : q < base) (hbase : base ≤ w.heap.size) (hr : 1 ≤ r ∧ r ≤ 64 ∧ 64 ≤ m ∧ m ≤ 65536) (hk : key.size ≤ 140737488355328) (hv : value.size ≤ 140737488355328) :
    Calls Tryz.prog 21 #[.pointer (some ⟨q, 0, none⟩), .string key, .string value] w fun e w' => e = .returned (.int .i64 (addA r m L key value)) ∧ BS w' q base r m (addL r m L key value) ∧ OkB r (addL r m L key value) ∧ KeptF w w' (BF w q base) := by
  obtain ⟨ev, pv, h1, h2, h3⟩ := h
  obtain ⟨f1, f2, f3⟩ := ok_few hok
  refine (add_any q base (r : Int) m ev pv _ _ L.length _ key value w h1 h2 h3 hq hbase (by omega) (by omega) (by omega) (by omega) (lastK_small hok.1) hk hv (by omega) (by rw [psL_len]; omega) (by omega)).mono ?_
  rintro e w' ⟨rfl, hn, hp⟩
  refine ⟨rfl, ?_⟩
  by_cases h0 : addA r m L key value = 0
  · obtain ⟨ev', pv', g1, g2, g3, g4⟩ := hp h0
    have hL : addL r m L key value = L ++ [(key, value)] := if_pos h0
    rw [hL]
    refine ⟨⟨ev', pv', ?_, ?_, ?_⟩, ok_add hok (by omega) (by omega) h0, g4.mono ?_⟩
    · rw [lastK_snoc, List.length_append]
      exact g1
    · rw [esL_snoc r L key value (by omega)]; exact g2
    · rw [psL_snoc r L (key, value) (by omega)]; exact g3
    · intro i hi
      rcases hi with rfl | hi | hi
      · exact .inl (.inl rfl)
      · exact .inl (.inr ⟨(blk h2 i hi).1, .inl (fun k hk => own_ty h2 k (by rw [hi]; exact hk))⟩)
      · exact .inl (.inr ⟨(h3.lt i hi).1, .inr (fun k hk => own_ty h3 k (by rw [hi]; exact hk))⟩)
  · have hL : addL r m L key value = L := if_neg h0
    rw [hL]
    have hb := hn h0
    exact ⟨BS.below ⟨ev, pv, h1, h2, h3⟩ hb, hok, KeptF.of hb⟩
/-- Size. -/
theorem size_bs (q base r : Nat) (m : Int) (L : List En) (w : World) (h : BS w q base r m L) (hok : OkB r L) (hL : L ≠ []) :
    Calls Tryz.prog 22 #[.pointer (some ⟨q, 0, none⟩)] w fun e w' => e = .returned (.int .i64 ((rawE r L).length : Nat)) ∧ ∃ k, w' = w.drewN k := by
  obtain ⟨ev, pv, h1, h2, h3⟩ := h
  obtain ⟨f1, f2, f3⟩ := ok_few hok
  obtain ⟨ea, ec, rfl⟩ := h2.shape
  obtain ⟨pa, pc, rfl⟩ := h3.shape
  have hn := List.length_pos_iff.2 hL
  refine (bsize_any q (r : Int) m ea pa _ ec _ pc L.length _ w h1 (by omega) (by rw [psL_len]; omega) (by omega)).mono ?_
  rintro e w' ⟨rfl, hd⟩
  refine ⟨?_, hd⟩
  rw [rawE_len, psL_len]
  unfold sizeB
  rw [if_neg (by omega)]
/-- Len. -/
theorem len_bs (q base r : Nat) (m : Int) (L : List En) (w : World) (h : BS w q base r m L) : Calls Tryz.prog 31 #[.pointer (some ⟨q, 0, none⟩)] w fun e w' => e = .returned (.int .i64 (L.length : Nat)) ∧ w' = w := by
  obtain ⟨ev, pv, h1, h2, h3⟩ := h
  exact blen_any q _ _ _ _ _ _ w h1
/-- Finish. -/
theorem fin_bs (q base r : Nat) (m : Int) (L : List En) (w : World) (h : BS w q base r m L) (hok : OkB r L) (hL : L ≠ []) (hbase : base ≤ w.heap.size) (hr : 1 ≤ r ∧ r ≤ 64) :
    Calls Tryz.prog 33 #[.pointer (some ⟨q, 0, none⟩)] w fun e w' => ∃ g, e = .returned (.tuple #[.slice (some ⟨g, 0, none⟩) ((packB (rawE r L)).length + 4) ((packB (rawE r L)).length + 4), .int .i64 ((rawE r L).length : Nat), .int .i64 0]) ∧ Own w' w.heap.size (.slice (some ⟨g, 0, none⟩) ((packB (rawE r L)).length + 4) ((packB (rawE r L)).length + 4)) (tileB (rawE r L)) ∧ BS w' q base r m [] ∧ KeptF w w' (fun i => i = q) := by
  obtain ⟨ev, pv, h1, h2, h3⟩ := h
  obtain ⟨f1, f2, f3⟩ := ok_few hok
  have hn := List.length_pos_iff.2 hL
  refine (finish_any q base (r : Int) m ev pv (esL r L) (psL r L) L.length _ w h1 h2 h3 hbase (by omega) (by omega) (by omega) hn ?_ hok.2.2).mono ?_
  · intro k hk
    unfold psL at hk ⊢
    rw [List.length_map, List.length_range] at hk
    rw [List.getD_eq_getElem?_getD, List.getElem?_map, List.getElem?_range hk]
    have h5 := grp_lt r L.length k (by omega) hk
    have h6 := pos_mono r L (k * r) (L.length - k * r)
    rw [Nat.add_sub_cancel' (by omega)] at h6
    have h4 : pos r L L.length = (esL r L).length := rfl
    show 0 ≤ ((pos r L (k * r) : Nat) : Int) ∧ ((pos r L (k * r) : Nat) : Int) ≤ 1048576
    omega
  · rintro e w' ⟨g, rfl, ho, hb, hk⟩
    refine ⟨g, rfl, ho, ⟨_, _, hb, own_none _ _, ?_⟩, hk⟩
    have HP : psL r [] = [] := List.length_eq_zero_iff.1 (by rw [psL_len]; exact grpN_zero r (by omega))
    rw [HP]
    exact ownI_none _ _
end Go.Proofs.YthdblnfohbldcaaGreat.Bl
