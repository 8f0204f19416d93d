/-
  What was packed is unpacked; what was laid is cut again.
-/
import Derived.Test.YthdblnfohbldcaaGreatBlRightJ
import Derived.Test.YthdblnfohbldcaaGreatBlTileJ
import Derived.Test.YthdblnfohbldcaaGreatBlSlRJ
import Derived.Test.YthdblnfohbldcaaGreatLzWorksJ
import Derived.Test.YthdblnfohbldcaaGreatBlCutMJ
import Derived.Test.YthdblnfohbldcaaGreatHuffE7J
import Derived.Test.YthdblnfohbldcaaGreatBlAddJ
import Derived.Test.YthdblnfohbldcaaGreatBlRevJ
namespace Go.Proofs.YthdblnfohbldcaaGreat.Bl
open Go.Proofs.YthdblnfohbldcaaGreat.Base Go.Proofs.YthdblnfohbldcaaGreat.Nums Go.Proofs.YthdblnfohbldcaaGreat.Curs Go.Proofs.YthdblnfohbldcaaGreat.Crc
open Go.Proofs.YthdblnfohbldcaaGreat.Fa (St numS fixS)
set_option linter.unusedVariables false
/-- A payload with its flag that tells bs. -/
def Fair (bs b : List (BitVec 8)) : Prop := ∃ k p, b = p ++ [BitVec.ofNat 8 k] ∧ k < 3 ∧ bs.length ≤ 64 * p.length ∧ unpE k p (bs.length : Int) = (bs, 0)
theorem fair_step {bs p b : List (BitVec 8)} {k : Nat} {er : Int} (hk : k < 3) (hu : er = 0 → unpE k p (bs.length : Int) = (bs, 0)) (hb : Fair bs b) : Fair bs (packStep bs.length k p er b) := by
  unfold packStep
  split
  · exact hb
  · next h =>
    split
    · exact ⟨k, p, rfl, hk, by omega, hu (by omega)⟩
    · exact hb
theorem unpE_raw (bs : List (BitVec 8)) : unpE 0 bs (bs.length : Int) = (bs, 0) := by unfold unpE; rw [if_pos rfl, if_pos rfl]
theorem unpE_lz (bs : List (BitVec 8)) (h : bs.length ≤ 65536) : unpE 1 (Lz.bytesOf (Lz.ownFrom bs 0 0)) (bs.length : Int) = (bs, 0) := by
  unfold unpE
  rw [if_neg (by decide), if_pos rfl, Lz.enc_dec bs h]
  rfl
theorem unpE_huff (bs : List (BitVec 8)) (h : bs.length ≤ 65536) : unpE 2 (Huff.encoded bs).1 (bs.length : Int) = (bs, 0) := by
  unfold unpE
  rw [if_neg (by decide), if_neg (by decide), (Huff.there_back bs h).2]
theorem fair_pack (bs : List (BitVec 8)) (h : bs.length ≤ 65536) : Fair bs (packB bs) := by
  unfold packB packL packTo
  refine fair_step (by omega) (fun _ => unpE_huff bs h) (fair_step (by omega) (fun _ => unpE_lz bs h) ?_)
  unfold packStep
  rw [if_neg (by omega), if_pos (.inl rfl)]
  exact ⟨0, bs, rfl, by omega, by omega, unpE_raw bs⟩
theorem fair_unp {bs b : List (BitVec 8)} (h : Fair bs b) : unpOk b (bs.length : Int) = true ∧ unpT b (bs.length : Int) = bs := by
  obtain ⟨k, p, rfl, hk, hl, hu⟩ := h
  have e1 : (p ++ [BitVec.ofNat 8 k]).length - 1 = p.length := by simp
  have e2 : ((p ++ [BitVec.ofNat 8 k]).getD p.length 0).toNat = k := by
    rw [List.getD_eq_getElem?_getD, List.getElem?_append_right (Nat.le_refl _)]
    simp only [Nat.sub_self, List.getElem?_cons_zero, Option.getD_some, BitVec.toNat_ofNat]
    omega
  have e3 : (p ++ [BitVec.ofNat 8 k]).take p.length = p := by simp
  unfold unpOk unpT
  rw [e1, e2, e3, hu]
  refine ⟨decide_eq_true ⟨by simp, by omega, hk, rfl⟩, rfl⟩
theorem pack_unp (bs : List (BitVec 8)) (h : bs.length ≤ 65536) : unpOk (packB bs) (bs.length : Int) = true ∧ unpT (packB bs) (bs.length : Int) = bs := fair_unp (fair_pack bs h)
theorem open_tileB (bs : List (BitVec 8)) : openErr (tileB bs) = 0 ∧ openBody (tileB bs) = packB bs := ⟨openErr_tile _, openBody_tile _⟩
theorem fixS_fixed (v n : Nat) (rest : List (BitVec 8)) (h1 : 1 ≤ n) (h8 : n ≤ 8) (hv : v < 256 ^ n) : fixS (some (fixed v n ++ rest)) (n : Int) = (v, some rest) := by
  unfold fixS
  simp only
  rw [fixAt_fixed v n rest h1 h8, Nat.mod_eq_of_lt hv]
  simp only [if_true]
  rw [List.drop_left' (length_fixed v n)]
theorem tabS_rawP (rest : List (BitVec 8)) : ∀ ps : List Int, (∀ x ∈ ps, 0 ≤ x ∧ x < 4294967296) → tabS ps.length (some (rawP ps ++ rest)) = ps ∧ tabL ps.length (some (rawP ps ++ rest)) = some rest
  | [], _ => ⟨rfl, rfl⟩
  | p :: ps, h => by
    have hp := h p (List.mem_cons_self ..)
    have hi := tabS_rawP rest ps (fun x hx => h x (List.mem_cons_of_mem _ hx))
    have e1 : rawP (p :: ps) ++ rest = fixed p.toNat 4 ++ (rawP ps ++ rest) := by unfold rawP; rw [List.flatMap_cons, List.append_assoc]
    have hf := fixS_fixed p.toNat 4 (rawP ps ++ rest) (by omega) (by omega) (by omega)
    rw [show ((4 : Nat) : Int) = 4 from rfl] at hf
    rw [e1]
    rw [List.length_cons]
    unfold tabS tabL
    rw [hf]
    simp only
    exact ⟨by rw [hi.1, Int.toNat_of_nonneg hp.1], hi.2⟩
theorem pos_mono (r : Nat) (L : List En) (i d : Nat) : pos r L i ≤ pos r L (i + d) := by
  obtain ⟨t, ht⟩ := encA_pre r L i d
  unfold pos
  rw [ht, List.length_append]; omega
theorem entL_min (c : Nat) (key value : ByteArray) (hk : key.size ≤ 1024) (hc : c ≤ key.size) (hv : value.size ≤ 1024) : 3 ≤ (entL c key value).length := by
  have h1 := (put_nine c (by omega)).1
  have h2 := (put_nine (key.size - c) (by omega)).1
  have h3 := (put_nine value.size (by omega)).1
  unfold entL
  simp only [List.length_append]
  omega
theorem cmAt_le (r : Nat) (L : List En) (i : Nat) : cmAt r L i ≤ (L.getD i dE).1.size := by
  unfold cmAt
  split
  · omega
  · exact (common_sizes _ _).2
theorem pos_ge (r : Nat) (L : List En) (hs : Small L) : ∀ i, i ≤ L.length → 3 * i ≤ pos r L i
  | 0, _ => by omega
  | i + 1, h => by
    have h1 := pos_ge r L hs i (by omega)
    have hm : L.getD i dE ∈ L := by rw [List.getD_eq_getElem?_getD, List.getElem?_eq_getElem (by omega)]; exact List.getElem_mem _
    have h2 := entL_min (cmAt r L i) (L.getD i dE).1 (L.getD i dE).2 (hs _ hm).1 (cmAt_le r L i) (hs _ hm).2
    show _ ≤ (encA r L i ++ enc1 r L i).length
    rw [List.length_append]
    unfold enc1 pos at *
    omega
def rawE (r : Nat) (L : List En) : List (BitVec 8) := rawL (esL r L) (psL r L) (r : Int) L.length
theorem grp_div (r n : Nat) (h : 0 < r) (hn : 0 < n) : (n - 1) / r + 1 = grpN r n := by
  unfold grpN
  rw [show n + r - 1 = (n - 1) + r by omega, Nat.add_div_right _ h]
theorem cut_back (r : Nat) (L : List En) (h1 : 1 ≤ r) (h64 : r ≤ 64) (hL : L ≠ []) (hs : Small L) (hl : (rawE r L).length ≤ 65536) :
    ctR (rawE r L) = r ∧ ctN (rawE r L) = L.length ∧ cutOk (rawE r L) = true ∧ ctP (rawE r L) = plL r L ∧ ctE (rawE r L) = (esL r L).length ∧ ctG (rawE r L) = grpN r L.length ∧ (rawE r L).take (ctE (rawE r L)) = esL r L := by
  have hlen : (rawE r L).length = (esL r L).length + 4 * grpN r L.length + 8 := by unfold rawE; rw [rawL_len, psL_len]
  have hn : 0 < L.length := List.length_pos_iff.2 hL
  have hge : 3 * L.length ≤ (esL r L).length := pos_ge r L hs L.length (Nat.le_refl _)
  have hdr : (rawE r L).drop ((rawE r L).length - 8) = fixed r 4 ++ (fixed L.length 4 ++ []) := by
    unfold rawE rawL
    rw [Int.toNat_natCast, List.append_nil, List.append_assoc]
    apply List.drop_left'
    simp only [List.length_append, length_fixed]
    omega
  have f1 := fixS_fixed r 4 (fixed L.length 4 ++ []) (by omega) (by omega) (by omega)
  have f2 := fixS_fixed L.length 4 [] (by omega) (by omega) (by omega)
  rw [show ((4 : Nat) : Int) = 4 from rfl] at f1 f2
  have hT : tailS (rawE r L) = some (fixed r 4 ++ (fixed L.length 4 ++ [])) := by unfold tailS; rw [hdr]
  have hR : ctR (rawE r L) = r := by unfold ctR; rw [hT, f1]
  have hN : ctN (rawE r L) = L.length := by unfold ctN; rw [hT, f1]; simp only; rw [f2]
  have hG : ctG (rawE r L) = grpN r L.length := by unfold ctG; rw [hR, hN]; exact grp_div r _ (by omega) hn
  have hE : ctE (rawE r L) = (esL r L).length := by unfold ctE; rw [hG]; omega
  have hA : cutA (rawE r L) = true := by
    unfold cutA
    refine decide_eq_true ⟨?_, by omega, by omega, by omega, by omega⟩
    rw [hT, f1]; simp only; rw [f2]
  have hB : cutB (rawE r L) = true := by unfold cutB; rw [hA, Bool.true_and]; exact decide_eq_true (by omega)
  have hdE : (rawE r L).drop (ctE (rawE r L)) = rawP (psL r L) ++ (fixed r 4 ++ fixed L.length 4) := by
    rw [hE]
    unfold rawE rawL
    rw [Int.toNat_natCast]
    simp only [List.append_assoc]
    exact List.drop_left
  have hps : ∀ x ∈ psL r L, 0 ≤ x ∧ x < 4294967296 := by
    intro x hx
    unfold psL at hx
    obtain ⟨g, hg, rfl⟩ := List.mem_map.1 hx
    have h2 := grp_lt r L.length g (by omega) (List.mem_range.1 hg)
    have h3 := pos_mono r L (g * r) (L.length - g * r)
    rw [Nat.add_sub_cancel' (by omega)] at h3
    have h4 : pos r L L.length = (esL r L).length := rfl
    omega
  have hP : ctP (rawE r L) = plL r L := by
    unfold ctP
    rw [hdE, hG, hE]
    have h5 := (tabS_rawP (fixed r 4 ++ fixed L.length 4) (psL r L) hps).1
    rw [psL_len] at h5
    rw [h5]
    rfl
  have hGp : 0 < grpN r L.length := by rw [← grp_div r _ (by omega) hn]; exact Nat.succ_pos _
  have hpl : (plL r L).length = grpN r L.length + 1 := by unfold plL; rw [List.length_append, psL_len]; rfl
  have hC : cutC (rawE r L) = true := by
    unfold cutC
    rw [hP, plL_get r L 0 (by omega) (by omega), Nat.zero_mul, Nat.min_eq_left (Nat.zero_le _)]
    rw [Bool.and_eq_true]
    refine ⟨by rfl, upI_of _ ?_⟩
    intro g hg
    rw [hpl] at hg
    rw [plL_get r L g (by omega) (by omega), plL_get r L (g + 1) (by omega) (by omega)]
    have h6 : min (g * r) L.length ≤ min ((g + 1) * r) L.length := by rw [Nat.add_mul]; omega
    have h7 := pos_mono r L (min (g * r) L.length) (min ((g + 1) * r) L.length - min (g * r) L.length)
    rw [Nat.add_sub_cancel' h6] at h7
    omega
  refine ⟨hR, hN, ?_, hP, hE, hG, ?_⟩
  · unfold cutOk; rw [hB, hC]; rfl
  · rw [hE]
    unfold rawE rawL
    simp only [List.append_assoc]
    exact List.take_left
end Go.Proofs.YthdblnfohbldcaaGreat.Bl
/-
  A builder that has gathered the entries L: New, Add, Size, Len, Finish.
-/
namespace Go.Proofs.YthdblnfohbldcaaGreat.Bl
open Go.ChangeShapes Go.WideShapes Go.ChangeAt Go.RowKit
open Go.Proofs.YthdblnfohbldcaaGreat.Base Go.Proofs.YthdblnfohbldcaaGreat.Nums
set_option linter.unusedVariables false
/-- A builder of the entries L stands at q, its memory from base on. -/
def BS (w : World) (q base r : Nat) (m : Int) (L : List En) : Prop := ∃ ev pv, BB w q (r : Int) m ev pv (L.length : Int) (lastK ⟨#[]⟩ L) ∧ Own w base ev (esL r L) ∧ OwnI w base pv (psL r L)
/-- Entries that a builder may have. -/
def OkB (r : Nat) (L : List En) : Prop := Small L ∧ rises ⟨#[]⟩ L = true ∧ (rawE r L).length ≤ 65536
def addA (r : Nat) (m : Int) (L : List En) (key value : ByteArray) : Int := addE (r : Int) m (esL r L).length (psL r L).length L.length (lastK ⟨#[]⟩ L) key value
/-- The entries behind an Add. -/
def addL (r : Nat) (m : Int) (L : List En) (key value : ByteArray) : List En := if addA r m L key value = 0 then L ++ [(key, value)] else L
/-- The blocks that a builder at q may turn. -/
def BF (w : World) (q base : Nat) (i : Nat) : Prop := i = q ∨ (base ≤ i ∧ (Ty w (some i) 5 ∨ Ty w (some i) 3))
theorem rawE_len (r : Nat) (L : List En) : (rawE r L).length = (esL r L).length + 4 * grpN r L.length + 8 := by unfold rawE; rw [rawL_len, psL_len]
theorem grpN_zero (r : Nat) (h : 0 < r) : grpN r 0 = 0 := by unfold grpN; exact Nat.div_eq_of_lt (by omega)
theorem okB_nil (r : Nat) (h : 0 < r) : OkB r [] := ⟨(fun e he => absurd he List.not_mem_nil), rfl, by rw [rawE_len]; show 0 + 4 * grpN r 0 + 8 ≤ 65536; rw [grpN_zero r h]; omega⟩
theorem lastK_small {L : List En} (h : Small L) : (lastK ⟨#[]⟩ L).size ≤ 1024 := by
  rcases List.eq_nil_or_concat L with rfl | ⟨x, e, rfl⟩
  · exact Nat.zero_le _
  · rw [List.concat_eq_append, lastK_snoc]
    exact (h e (by rw [List.concat_eq_append]; exact List.mem_append_right _ (List.mem_singleton.2 rfl))).1
theorem ok_few {r : Nat} {L : List En} (h : OkB r L) : (esL r L).length ≤ 65528 ∧ 3 * L.length ≤ (esL r L).length ∧ 4 * grpN r L.length ≤ 65528 := by
  have h1 := rawE_len r L
  have h2 := pos_ge r L h.1 L.length (Nat.le_refl _)
  have h3 := h.2.2
  have h4 : pos r L L.length = (esL r L).length := rfl
  omega
theorem ok_add {r : Nat} {m : Int} {L : List En} {key value : ByteArray} (h : OkB r L) (hr : 0 < r) (hm : m ≤ 65536) (ha : addA r m L key value = 0) : OkB r (L ++ [(key, value)]) := by
  unfold addA addE at ha
  by_cases h1 : 1024 < key.size ∨ 1024 < value.size
  · rw [if_pos h1] at ha; exact absurd ha (by decide)
  rw [if_neg h1] at ha
  by_cases h2 : order (txt key) (txt (lastK ⟨#[]⟩ L)) < 0
  · rw [if_pos h2] at ha; exact absurd ha (by decide)
  rw [if_neg h2] at ha
  obtain ⟨tb, htb⟩ : ∃ tb, restB L.length (psL r L).length (r : Int) = tb := ⟨_, rfl⟩
  have hes := esL_snoc r L key value hr
  have hps := psL_snoc r L (key, value) hr
  rw [htb] at ha hes hps
  refine ⟨?_, ?_, ?_⟩
  · intro e he
    rcases List.mem_append.1 he with h3 | h3
    · exact h.1 e h3
    · rw [List.mem_singleton.1 h3]; exact ⟨by show key.size ≤ 1024; omega, by show value.size ≤ 1024; omega⟩
  · rw [rises_snoc, h.2.1, Bool.true_and]
    exact decide_eq_true (by show 0 ≤ order (txt key) _; omega)
  · unfold rawE
    rw [rawL_len, hes, hps]
    have hpl : (plB tb (esL r L).length (psL r L)).length * 4 = 4 * (psL r L).length + roomB tb := by
      unfold plB roomB
      cases tb with
      | true => simp only [if_true, List.length_append, List.length_cons, List.length_nil]; omega
      | false => simp only [Bool.false_eq_true, if_false]; omega
    rw [List.length_append]
    by_cases hn : 0 < L.length
    · have h4 : ¬ (0 < L.length ∧ m < ((sizeB (esL r L).length (psL r L).length L.length + (entL (cmB tb (lastK ⟨#[]⟩ L) key) key value).length + roomB tb : Nat) : Int)) := fun h5 => by rw [if_pos h5] at ha; exact absurd ha (by decide)
      unfold sizeB at h4
      rw [if_neg (by omega)] at h4
      omega
    · have h5 : L = [] := List.length_eq_zero_iff.1 (by omega)
      have h6 := entL_len (cmB tb (lastK ⟨#[]⟩ L) key) key value (cmB_le _ _ _) (by omega) (by omega)
      have h7 : roomB tb ≤ 4 := by unfold roomB; split <;> omega
      have h8 : (esL r L).length = 0 := by rw [h5]; rfl
      have h9 : (psL r L).length = 0 := by rw [psL_len, h5]; exact grpN_zero r hr
      omega
theorem BS.keep {w w' : World} {q base r : Nat} {m : Int} {L : List En} {o : Option Nat} (h : BS w q base r m L) (hg : w.grownBy w' o) (hne : ∀ i, o = some i → i ≠ q ∧ ¬ Ty w (some i) 5 ∧ ¬ Ty w (some i) 3) : BS w' q base r m L := by
  obtain ⟨ev, pv, h1, h2, h3⟩ := h
  refine ⟨ev, pv, h1.grown hg (fun e => (hne _ e).1 rfl), Base.keep h2 hg ?_, ownI_keep h3 hg ?_⟩
  · intro i j e1 e2 e3
    subst e3
    exact (hne i e2).2.1 (fun k hk => own_ty h2 k (by rw [e1]; exact hk))
  · intro i e1 e2
    exact (hne i e2).2.2 (fun k hk => own_ty h3 k (by rw [e1]; exact hk))
theorem BS.below {w w' : World} {q base r : Nat} {m : Int} {L : List En} (h : BS w q base r m L) (hb : Below w.heap.size w w') : BS w' q base r m L := h.keep (below_grown hb) (fun i e => nomatch e)
/-- NewBuilder. -/
theorem new_bs (r : Nat) (m : Int) (w : World) (h : 1 ≤ r ∧ r ≤ 64 ∧ 64 ≤ m ∧ m ≤ 65536) :
    Calls Tryz.prog 19 #[.int .i64 (r : Int), .int .i64 m] w fun e w' => e = .returned (.tuple #[.pointer (some ⟨w.heap.size, 0, none⟩), .int .i64 0]) ∧ BS w' w.heap.size (w.heap.size + 1) r m [] ∧ w'.heap.size = w.heap.size + 1 ∧ Below w.heap.size w w' := by
  have h1 : ¬ (r : Int) < 1 := by omega
  have h2 : ¬ 64 < (r : Int) := by omega
  have h3 : ¬ m < 64 := by omega
  have h4 : ¬ 65536 < m := by omega
  have HB : Hid (BB (w.alloc (.cells #[.int .i64 (r : Int), .int .i64 m, .slice none 0 0, .slice none 0 0, .int .i64 0, .string ⟨#[]⟩] 108)) w.heap.size (r : Int) m (.slice none 0 0) (.slice none 0 0) 0 ⟨#[]⟩) := heap_alloc_new _ _
  have HW : Hid (Below w.heap.size w (w.alloc (.cells #[.int .i64 (r : Int), .int .i64 m, .slice none 0 0, .slice none 0 0, .int .i64 0, .string ⟨#[]⟩] 108))) := (Below.refl _ _).alloc (Nat.le_refl _) _
  have HP : Hid (psL r [] = []) := by show _ = _; refine List.length_eq_zero_iff.1 ?_; rw [psL_len]; exact grpN_zero r (by omega)
  go_enter Tryz.func19, Tryz.ntmps19
  go_wp2_with fail
  go_ret2
  refine ⟨rfl, ⟨_, _, HB.out, own_none _ _, ?_⟩, by simp, HW.out⟩
  rw [HP.out]
  exact ownI_none _ _
/-- Add. -/
theorem add_bs (q base r : Nat) (m : Int) (L : List En) (key value : ByteArray) (w : World) (h : BS w q base r m L) (hok : OkB r L) (hq : q < base) (hbase : base ≤ w.heap.size) (hr : 1 ≤ r ∧ r ≤ 64 ∧ 64 ≤ m ∧ m ≤ 65536) (hk : key.size ≤ 140737488355328) (hv : value.size ≤ 140737488355328) :
    Calls Tryz.prog 21 #[.pointer (some ⟨q, 0, none⟩), .string key, .string value] w fun e w' => e = .returned (.int .i64 (addA r m L key value)) ∧ BS w' q base r m (addL r m L key value) ∧ OkB r (addL r m L key value) ∧ KeptF w w' (BF w q base) := by
  obtain ⟨ev, pv, h1, h2, h3⟩ := h
  obtain ⟨f1, f2, f3⟩ := ok_few hok
  refine (add_any q base (r : Int) m ev pv _ _ L.length _ key value w h1 h2 h3 hq hbase (by omega) (by omega) (by omega) (by omega) (lastK_small hok.1) hk hv (by omega) (by rw [psL_len]; omega) (by omega)).mono ?_
  rintro e w' ⟨rfl, hn, hp⟩
  refine ⟨rfl, ?_⟩
  by_cases h0 : addA r m L key value = 0
  · obtain ⟨ev', pv', g1, g2, g3, g4⟩ := hp h0
    have hL : addL r m L key value = L ++ [(key, value)] := if_pos h0
    rw [hL]
    refine ⟨⟨ev', pv', ?_, ?_, ?_⟩, ok_add hok (by omega) (by omega) h0, g4.mono ?_⟩
    · rw [lastK_snoc, List.length_append]
      exact g1
    · rw [esL_snoc r L key value (by omega)]; exact g2
    · rw [psL_snoc r L (key, value) (by omega)]; exact g3
    · intro i hi
      rcases hi with rfl | hi | hi
      · exact .inl (.inl rfl)
      · exact .inl (.inr ⟨(blk h2 i hi).1, .inl (fun k hk => own_ty h2 k (by rw [hi]; exact hk))⟩)
      · exact .inl (.inr ⟨(h3.lt i hi).1, .inr (fun k hk => own_ty h3 k (by rw [hi]; exact hk))⟩)
  · have hL : addL r m L key value = L := if_neg h0
    rw [hL]
    have hb := hn h0
    exact ⟨BS.below ⟨ev, pv, h1, h2, h3⟩ hb, hok, KeptF.of hb⟩
/-- Size. -/
theorem size_bs (q base r : Nat) (m : Int) (L : List En) (w : World) (h : BS w q base r m L) (hok : OkB r L) (hL : L ≠ []) :
    Calls Tryz.prog 22 #[.pointer (some ⟨q, 0, none⟩)] w fun e w' => e = .returned (.int .i64 ((rawE r L).length : Nat)) ∧ ∃ k, w' = w.drewN k := by
  obtain ⟨ev, pv, h1, h2, h3⟩ := h
  obtain ⟨f1, f2, f3⟩ := ok_few hok
  obtain ⟨ea, ec, rfl⟩ := h2.shape
  obtain ⟨pa, pc, rfl⟩ := h3.shape
  have hn := List.length_pos_iff.2 hL
  refine (bsize_any q (r : Int) m ea pa _ ec _ pc L.length _ w h1 (by omega) (by rw [psL_len]; omega) (by omega)).mono ?_
  rintro e w' ⟨rfl, hd⟩
  refine ⟨?_, hd⟩
  rw [rawE_len, psL_len]
  unfold sizeB
  rw [if_neg (by omega)]
/-- Len. -/
theorem len_bs (q base r : Nat) (m : Int) (L : List En) (w : World) (h : BS w q base r m L) : Calls Tryz.prog 31 #[.pointer (some ⟨q, 0, none⟩)] w fun e w' => e = .returned (.int .i64 (L.length : Nat)) ∧ w' = w := by
  obtain ⟨ev, pv, h1, h2, h3⟩ := h
  exact blen_any q _ _ _ _ _ _ w h1
/-- Finish. -/
theorem fin_bs (q base r : Nat) (m : Int) (L : List En) (w : World) (h : BS w q base r m L) (hok : OkB r L) (hL : L ≠ []) (hbase : base ≤ w.heap.size) (hr : 1 ≤ r ∧ r ≤ 64) :
    Calls Tryz.prog 33 #[.pointer (some ⟨q, 0, none⟩)] w fun e w' => ∃ g, e = .returned (.tuple #[.slice (some ⟨g, 0, none⟩) ((packB (rawE r L)).length + 4) ((packB (rawE r L)).length + 4), .int .i64 ((rawE r L).length : Nat), .int .i64 0]) ∧ Own w' w.heap.size (.slice (some ⟨g, 0, none⟩) ((packB (rawE r L)).length + 4) ((packB (rawE r L)).length + 4)) (tileB (rawE r L)) ∧ BS w' q base r m [] ∧ KeptF w w' (fun i => i = q) := by
  obtain ⟨ev, pv, h1, h2, h3⟩ := h
  obtain ⟨f1, f2, f3⟩ := ok_few hok
  have hn := List.length_pos_iff.2 hL
  refine (finish_any q base (r : Int) m ev pv (esL r L) (psL r L) L.length _ w h1 h2 h3 hbase (by omega) (by omega) (by omega) hn ?_ hok.2.2).mono ?_
  · intro k hk
    unfold psL at hk ⊢
    rw [List.length_map, List.length_range] at hk
    rw [List.getD_eq_getElem?_getD, List.getElem?_map, List.getElem?_range hk]
    have h5 := grp_lt r L.length k (by omega) hk
    have h6 := pos_mono r L (k * r) (L.length - k * r)
    rw [Nat.add_sub_cancel' (by omega)] at h6
    have h4 : pos r L L.length = (esL r L).length := rfl
    show 0 ≤ ((pos r L (k * r) : Nat) : Int) ∧ ((pos r L (k * r) : Nat) : Int) ≤ 1048576
    omega
  · rintro e w' ⟨g, rfl, ho, hb, hk⟩
    refine ⟨g, rfl, ho, ⟨_, _, hb, own_none _ _, ?_⟩, hk⟩
    have HP : psL r [] = [] := List.length_eq_zero_iff.1 (by rw [psL_len]; exact grpN_zero r (by omega))
    rw [HP]
    exact ownI_none _ _
end Go.Proofs.YthdblnfohbldcaaGreat.Bl
/-
  What is unpacked has as many bytes as were claimed; a right text is one of entries, which a builder takes again.
-/
namespace Go.Proofs.YthdblnfohbldcaaGreat.Bl
open Go.ChangeShapes Go.WideShapes Go.ChangeAt Go.RowKit
open Go.Proofs.YthdblnfohbldcaaGreat.Base Go.Proofs.YthdblnfohbldcaaGreat.Nums Go.Proofs.YthdblnfohbldcaaGreat.Curs Go.Proofs.YthdblnfohbldcaaGreat.Crc
open Go.Proofs.YthdblnfohbldcaaGreat.Fa (St fixS)
set_option linter.unusedVariables false
theorem lz_len2 (p : List (BitVec 8)) (raw : Int) (h : (Lz.decoded p raw).2 = 0) : ((Lz.decoded p raw).1.length : Int) = raw := by
  unfold Lz.decoded at h ⊢
  by_cases hn : raw < 0 ∨ 65536 < raw
  · rw [if_pos hn] at h; exact absurd h (by decide)
  rw [if_neg hn] at h ⊢
  by_cases hr : (Lz.read p 0 raw.toNat).2 = 0
  · rw [if_pos hr]
    have hg := (Lz.read_ok raw.toNat p 0 raw.toNat _ (by omega) (by omega) (by omega) (Prod.ext rfl hr)).1
    show (((Lz.expand [] (Lz.read p 0 raw.toNat).1).length : Nat) : Int) = raw
    rw [Lz.length_expand _ [] _ hg]
    omega
  · rw [if_neg hr] at h; exact absurd h hr
theorem huff_len2 (p : List (BitVec 8)) (raw : Int) (h : (Huff.decoded p raw).2 = 0) : ((Huff.decoded p raw).1.length : Int) = raw := by
  unfold Huff.decoded at h ⊢
  by_cases hn : raw < 0 ∨ 65536 < raw
  · rw [if_pos hn] at h; exact absurd h (by decide)
  rw [if_neg hn] at h ⊢
  cases hl : Huff.lensOf p with
  | none => rw [hl] at h; simp at h
  | some x =>
    obtain ⟨ls, r⟩ := x
    rw [hl] at h
    simp only at h ⊢
    by_cases hr : Huff.right ls = false
    · rw [if_pos hr] at h; exact absurd h (by decide)
    rw [if_neg hr] at h ⊢
    cases ht : Huff.textTo ls r raw.toNat with
    | none => rw [ht] at h; simp at h
    | some y =>
      obtain ⟨t, i⟩ := y
      rw [ht] at h
      simp only at h ⊢
      by_cases he : Huff.isEnd r i = true
      · rw [if_pos he]
        have := (Huff.textTo_ok ls r _ _ _ ht).1
        show ((t.length : Nat) : Int) = raw
        omega
      · rw [if_neg he] at h; exact absurd h (by decide)
theorem unpE_len (k : Nat) (p : List (BitVec 8)) (raw : Int) (h : (unpE k p raw).2 = 0) : ((unpE k p raw).1.length : Int) = raw := by
  unfold unpE at h ⊢
  by_cases h0 : k = 0
  · rw [if_pos h0] at h ⊢
    by_cases h1 : (p.length : Int) = raw
    · rw [if_pos h1]; exact h1
    · rw [if_neg h1] at h; exact absurd h (by decide)
  rw [if_neg h0] at h ⊢
  by_cases h1 : k = 1
  · rw [if_pos h1] at h ⊢
    exact lz_len2 p raw (by simpa using h)
  · rw [if_neg h1] at h ⊢
    exact huff_len2 p raw h
/-- A payload with its flag behind it. -/
theorem unp_flag (p : List (BitVec 8)) (f : BitVec 8) (raw : Int) : unpOk (p ++ [f]) raw = decide (raw ≤ 64 * (p.length : Int) ∧ f.toNat < 3 ∧ (unpE f.toNat p raw).2 = 0) ∧ unpT (p ++ [f]) raw = (unpE f.toNat p raw).1 := by
  have e1 : (p ++ [f]).length - 1 = p.length := by simp
  have e2 : (p ++ [f]).getD p.length 0 = f := by rw [List.getD_eq_getElem?_getD, List.getElem?_append_right (Nat.le_refl _)]; simp
  have e3 : (p ++ [f]).take p.length = p := by simp
  unfold unpOk unpT
  rw [e1, e2, e3]
  exact ⟨decide_eq_decide.2 ⟨fun h => h.2, fun h => ⟨by simp, h⟩⟩, rfl⟩
/-- A right text. -/
theorem right_text (T : List (BitVec 8)) (hT : T.length ≤ 65536) (h : rightT T = true) :
    ∃ L G, L.length = ctN T ∧ RG (T.take (ctE T)) (ctP T) (ctR T) G L ∧ OkB (ctR T) L ∧ L ≠ [] ∧ (rawE (ctR T) L).length = T.length ∧ 1 ≤ ctR T ∧ ctR T ≤ 64 ∧ 8 ≤ T.length := by
  unfold rightT at h
  rw [Bool.and_eq_true] at h
  obtain ⟨hc, hf⟩ := h
  obtain ⟨f1, f2, f3, f4, f5, f6, f7, f8, f9, f10, f11⟩ := cut_facts T hc
  have hc2 := hc
  unfold cutOk at hc2
  rw [Bool.and_eq_true] at hc2
  have hC := hc2.2
  unfold cutC at hC
  rw [Bool.and_eq_true, beq_iff_eq] at hC
  have hlast : (ctP T).getD (ctG T) 0 = ((T.take (ctE T)).length : Int) := by
    rw [f5]
    unfold ctP
    rw [List.getD_eq_getElem?_getD, List.getElem?_append_right (by rw [tabS_len]; exact Nat.le_refl _), tabS_len, Nat.sub_self]
    rfl
  obtain ⟨L, hL, hRG, hes⟩ := right_rg _ _ _ _ _ f1 f2 hC.1 hlast f3 f4 (by rw [f5]; omega) (by omega) f6 f7 (by omega) hf
  have hne : L ≠ [] := by intro e; rw [e] at hL; simp at hL; omega
  have hg : grpN (ctR T) L.length = ctG T := by rw [hL]; unfold ctG; exact (grp_div (ctR T) (ctN T) (by omega) (by omega)).symm
  have hlen : (rawE (ctR T) L).length = T.length := by rw [rawE_len, hes, f5, hg]; omega
  obtain ⟨g1, g2, g3, g4, g5, g6, g7, g8, g9, g10, g11, g12⟩ := hRG
  exact ⟨L, ctG T, hL, ⟨g1, g2, g3, g4, g5, g6, g7, g8, g9, g10, g11, g12⟩, ⟨g12, g11, by omega⟩, hne, hlen, f6, f7, by omega⟩
theorem getD_take (L : List En) (k i : Nat) (h : i < k) : (L.take k).getD i dE = L.getD i dE := by
  rw [List.getD_eq_getElem?_getD, List.getElem?_take_of_lt h, List.getD_eq_getElem?_getD]
theorem encA_take (r : Nat) (L : List En) (k : Nat) : ∀ i, i ≤ k → encA r (L.take k) i = encA r L i
  | 0, _ => rfl
  | i + 1, h => by
    unfold encA
    rw [encA_take r L k i (by omega)]
    congr 1
    unfold enc1 cmAt
    rw [getD_take L k i (by omega)]
    by_cases h0 : i % r = 0
    · rw [if_pos h0, if_pos h0]
    · rw [if_neg h0, if_neg h0, getD_take L k (i - 1) (by omega)]
theorem grpN_mono (r a b : Nat) (h : a ≤ b) : grpN r a ≤ grpN r b := Nat.div_le_div_right (by omega)
/-- The first entries of some. -/
theorem ok_take {r : Nat} {L : List En} (h : OkB r L) (k : Nat) (hk : k ≤ L.length) : OkB r (L.take k) := by
  refine ⟨fun e he => h.1 e (List.mem_of_mem_take he), ?_, ?_⟩
  · have h2 := h.2.1
    rw [← List.take_append_drop k L, rises_app, Bool.and_eq_true] at h2
    exact h2.1
  · have h3 := h.2.2
    rw [rawE_len] at h3 ⊢
    have hl : (L.take k).length = k := by rw [List.length_take]; omega
    have e1 : esL r (L.take k) = encA r L k := by unfold esL; rw [hl, encA_take r L k k (Nat.le_refl _)]
    have h4 := pos_mono r L k (L.length - k)
    rw [Nat.add_sub_cancel' hk] at h4
    have h5 := grpN_mono r k L.length hk
    rw [e1, hl]
    have h6 : pos r L L.length = (esL r L).length := rfl
    have h7 : pos r L k = (encA r L k).length := rfl
    omega
theorem take_next (L : List En) (k : Nat) (h : k < L.length) : L.take (k + 1) = L.take k ++ [((L.getD k dE).1, (L.getD k dE).2)] := by
  rw [List.take_add_one, List.getElem?_eq_getElem h, List.getD_eq_getElem?_getD, List.getElem?_eq_getElem h]
  rfl
/-- A builder takes entries again. -/
theorem add_again {r : Nat} {L : List En} (h : OkB r L) (hr : 0 < r) (k : Nat) (hk : k < L.length) : addA r 65536 (L.take k) (L.getD k dE).1 (L.getD k dE).2 = 0 := by
  have hm : L.getD k dE ∈ L := by rw [List.getD_eq_getElem?_getD, List.getElem?_eq_getElem hk]; exact List.getElem_mem _
  have hs := h.1 _ hm
  have hnx := take_next L k hk
  have hok := ok_take h (k + 1) (by omega)
  rw [hnx] at hok
  have hes := esL_snoc r (L.take k) (L.getD k dE).1 (L.getD k dE).2 hr
  have hps := psL_snoc r (L.take k) ((L.getD k dE).1, (L.getD k dE).2) hr
  have hri := hok.2.1
  rw [rises_snoc, Bool.and_eq_true] at hri
  have hor := of_decide_eq_true hri.2
  have hlen := hok.2.2
  unfold rawE at hlen
  rw [rawL_len, hes, hps] at hlen
  unfold addA addE
  rw [if_neg (by omega), if_neg (by simp only at hor; omega), if_neg]
  rintro ⟨h1, h2⟩
  obtain ⟨tb, htb⟩ : ∃ tb, restB (L.take k).length (psL r (L.take k)).length (r : Int) = tb := ⟨_, rfl⟩
  rw [htb] at hlen h2
  have hpl : (plB tb (esL r (L.take k)).length (psL r (L.take k))).length * 4 = 4 * (psL r (L.take k)).length + roomB tb := by
    unfold plB roomB
    cases tb with
    | true => simp only [if_true, List.length_append, List.length_cons, List.length_nil]; omega
    | false => simp only [Bool.false_eq_true, if_false]; omega
  rw [List.length_append] at hlen
  unfold sizeB at h2
  rw [if_neg (by omega)] at h2
  omega
/-- The two numbers at the end. -/
theorem ct_words (T : List (BitVec 8)) (h8 : 8 ≤ T.length) : ctR T = word ((T.drop (T.length - 8)).take 4) ∧ ctN T = word (T.drop (T.length - 4)) := by
  have e1 : fixAt (T.drop (T.length - 8)) 4 = (word ((T.drop (T.length - 8)).take 4), 4, 0) := by
    unfold fixAt
    rw [if_neg (by decide), if_neg (by rw [List.length_drop]; omega)]
    rfl
  have f1 : fixS (tailS T) 4 = (word ((T.drop (T.length - 8)).take 4), some ((T.drop (T.length - 8)).drop 4)) := by
    unfold tailS fixS
    simp only
    rw [e1]
    rfl
  have hd : (T.drop (T.length - 8)).drop 4 = T.drop (T.length - 4) := by rw [List.drop_drop]; congr 1; omega
  have e2 : fixAt (T.drop (T.length - 4)) 4 = (word ((T.drop (T.length - 4)).take 4), 4, 0) := by
    unfold fixAt
    rw [if_neg (by decide), if_neg (by rw [List.length_drop]; omega)]
    rfl
  have ht : (T.drop (T.length - 4)).take 4 = T.drop (T.length - 4) := List.take_of_length_le (by rw [List.length_drop]; omega)
  refine ⟨by unfold ctR; rw [f1], ?_⟩
  unfold ctN
  rw [f1, hd]
  unfold fixS
  simp only
  rw [e2, ht]
  rfl
end Go.Proofs.YthdblnfohbldcaaGreat.Bl
/-
  Open of the tile of entries.
-/
namespace Go.Proofs.YthdblnfohbldcaaGreat.Bl
open Go.ChangeShapes Go.WideShapes Go.ChangeAt Go.RowKit
open Go.Proofs.YthdblnfohbldcaaGreat.Base Go.Proofs.YthdblnfohbldcaaGreat.Nums Go.Proofs.YthdblnfohbldcaaGreat.Curs Go.Proofs.YthdblnfohbldcaaGreat.Crc
open Go.Proofs.YthdblnfohbldcaaGreat.Fa (St Cst)
set_option linter.unusedVariables false
theorem right_raw (r : Nat) (L : List En) (h1 : 1 ≤ r) (h64 : r ≤ 64) (hL : L ≠ []) (hok : OkB r L) : rightT (rawE r L) = true := by
  obtain ⟨c1, c2, c3, c4, c5, c6, c7⟩ := cut_back r L h1 h64 hL hok.1 hok.2.2
  unfold rightT
  rw [c3, c1, c2, c4, c6, c7, Bool.true_and]
  exact right_back r L (by omega) hok.1 (grpN r L.length) 0 ⟨#[]⟩ (by omega) (by rw [Nat.zero_mul]; exact hok.2.1)
theorem rl_of {w : World} {q r : Nat} {L : List En} (h1 : 1 ≤ r) (h64 : r ≤ 64) (hL : L ≠ []) (hok : OkB r L) (hx : RX w q ((rawE r L).take (ctE (rawE r L))) (ctP (rawE r L)) (ctR (rawE r L)) (ctN (rawE r L))) : RL w q L := by
  obtain ⟨c1, c2, c3, c4, c5, c6, c7⟩ := cut_back r L h1 h64 hL hok.1 hok.2.2
  obtain ⟨f1, f2, f3, f4, f5, f6, f7, f8, f9, f10, f11⟩ := cut_facts _ c3
  have hlen := hok.2.2
  rw [c7, c4] at f1
  rw [c4, c6] at f2
  rw [c6, c1, c2] at f3 f4
  rw [c7, c5] at f5
  rw [c6] at f10 f11
  rw [c5] at f11
  rw [c2] at f8 f9
  rw [c7, c4, c1, c2] at hx
  refine ⟨esL r L, plL r L, r, grpN r L.length, hx, f1, f2, f3, f4, by omega, by omega, h1, h64, by omega, ?_, hok.2.1, hok.1⟩
  exact fun g hg => grp_ents r L g (by omega) hok.1 hg
theorem packB_len (bs : List (BitVec 8)) (h : bs.length ≤ 65536) : (packB bs).length ≤ 8388609 := by
  unfold packB
  exact packL_len (by omega) (by have := lz_len bs h; omega) (by have := huff_len bs; omega)
/-- Open of the tile of entries. -/
theorem open_built (a : Option Addr) (n cap r : Nat) (L : List En) (w : World) (hr : Rd w a n (tileB (rawE r L))) (hcap : n ≤ cap) (hm : cap ≤ 9223372036854775807) (h1 : 1 ≤ r) (h64 : r ≤ 64) (hL : L ≠ []) (hok : OkB r L) :
    Calls Tryz.prog 10 #[.slice a n cap, .int .i64 ((rawE r L).length : Nat)] w fun e w' => ∃ q, e = .returned (.tuple #[.pointer (some ⟨q, 0, none⟩), .int .i64 0]) ∧ w.heap.size ≤ q ∧ RL w' q L ∧ Below w.heap.size w w' := by
  obtain ⟨o1, o2⟩ := open_tileB (rawE r L)
  obtain ⟨p1, p2⟩ := pack_unp (rawE r L) hok.2.2
  have hrt := right_raw r L h1 h64 hL hok
  have hlen := rawE_len r L
  refine (open_text a n cap (tileB (rawE r L)) (rawE r L) ((rawE r L).length : Int) w hr hcap hm (by omega) (by have := hok.2.2; omega) o1 (by rw [o2]; have := packB_len _ hok.2.2; omega) (by rw [o2]; exact p1) (by rw [o2]; exact p2) hok.2.2).mono ?_
  rintro e w' ⟨v, rfl, hq, _, hb⟩
  obtain ⟨q, rfl, hq1, hq2⟩ := hq hrt
  rw [if_pos hrt]
  exact ⟨q, rfl, hq1, rl_of h1 h64 hL hok hq2, hb⟩
end Go.Proofs.YthdblnfohbldcaaGreat.Bl
