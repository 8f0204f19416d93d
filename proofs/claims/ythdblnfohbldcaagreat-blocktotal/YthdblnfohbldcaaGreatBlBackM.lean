/-
  What was packed is unpacked; what was laid is cut again.
-/
import Derived.Test.YthdblnfohbldcaaGreatBlGrp
import Derived.Test.YthdblnfohbldcaaGreatBlTile
import Derived.Test.YthdblnfohbldcaaGreatBlUnp
import Derived.Test.YthdblnfohbldcaaGreatLzWorks
import Derived.Test.YthdblnfohbldcaaGreatBlCutM
import Derived.Test.YthdblnfohbldcaaGreatHuffE7
namespace Go.Proofs.YthdblnfohbldcaaGreat.Bl
open Go.Proofs.YthdblnfohbldcaaGreat.Base Go.Proofs.YthdblnfohbldcaaGreat.Nums Go.Proofs.YthdblnfohbldcaaGreat.Curs Go.Proofs.YthdblnfohbldcaaGreat.Crc
open Go.Proofs.YthdblnfohbldcaaGreat.Fa (St numS fixS)
set_option linter.unusedVariables false
/-- A payload with its flag that tells bs. -/
def Fair (bs b : List (BitVec 8)) : Prop := ∃ k p, b = p ++ [BitVec.ofNat 8 k] ∧ k < 3 ∧ bs.length ≤ 64 * p.length ∧ unpE k p (bs.length : Int) = (bs, 0)
theorem fair_step {bs p b : List (BitVec 8)} {k : Nat} {er : Int} (hk : k < 3) (hu : er = 0 → unpE k p (bs.length : Int) = (bs, 0)) (hb : Fair bs b) : Fair bs (packStep bs.length k p er b) := by
  unfold packStep
  split
  · exact hb
  · next h =>
    split
    · exact ⟨k, p, rfl, hk, by omega, hu (by omega)⟩
    · exact hb
theorem unpE_raw (bs : List (BitVec 8)) : unpE 0 bs (bs.length : Int) = (bs, 0) := by unfold unpE; rw [if_pos rfl, if_pos rfl]
theorem unpE_lz (bs : List (BitVec 8)) (h : bs.length ≤ 65536) : unpE 1 (Lz.bytesOf (Lz.ownFrom bs 0 0)) (bs.length : Int) = (bs, 0) := by
  unfold unpE
  rw [if_neg (by decide), if_pos rfl, Lz.enc_dec bs h]
  rfl
theorem unpE_huff (bs : List (BitVec 8)) (h : bs.length ≤ 65536) : unpE 2 (Huff.encoded bs).1 (bs.length : Int) = (bs, 0) := by
  unfold unpE
  rw [if_neg (by decide), if_neg (by decide), (Huff.there_back bs h).2]
theorem fair_pack (bs : List (BitVec 8)) (h : bs.length ≤ 65536) : Fair bs (packB bs) := by
  unfold packB packL packTo
  refine fair_step (by omega) (fun _ => unpE_huff bs h) (fair_step (by omega) (fun _ => unpE_lz bs h) ?_)
  unfold packStep
  rw [if_neg (by omega), if_pos (.inl rfl)]
  exact ⟨0, bs, rfl, by omega, by omega, unpE_raw bs⟩
theorem fair_unp {bs b : List (BitVec 8)} (h : Fair bs b) : unpOk b (bs.length : Int) = true ∧ unpT b (bs.length : Int) = bs := by
  obtain ⟨k, p, rfl, hk, hl, hu⟩ := h
  have e1 : (p ++ [BitVec.ofNat 8 k]).length - 1 = p.length := by simp
  have e2 : ((p ++ [BitVec.ofNat 8 k]).getD p.length 0).toNat = k := by
    rw [List.getD_eq_getElem?_getD, List.getElem?_append_right (Nat.le_refl _)]
    simp only [Nat.sub_self, List.getElem?_cons_zero, Option.getD_some, BitVec.toNat_ofNat]
    omega
  have e3 : (p ++ [BitVec.ofNat 8 k]).take p.length = p := by simp
  unfold unpOk unpT
  rw [e1, e2, e3, hu]
  refine ⟨decide_eq_true ⟨by simp, by omega, hk, rfl⟩, rfl⟩
theorem pack_unp (bs : List (BitVec 8)) (h : bs.length ≤ 65536) : unpOk (packB bs) (bs.length : Int) = true ∧ unpT (packB bs) (bs.length : Int) = bs := fair_unp (fair_pack bs h)
theorem open_tileB (bs : List (BitVec 8)) : openErr (tileB bs) = 0 ∧ openBody (tileB bs) = packB bs := ⟨openErr_tile _, openBody_tile _⟩
theorem fixS_fixed (v n : Nat) (rest : List (BitVec 8)) (h1 : 1 ≤ n) (h8 : n ≤ 8) (hv : v < 256 ^ n) : fixS (some (fixed v n ++ rest)) (n : Int) = (v, some rest) := by
  unfold fixS
  simp only
  rw [fixAt_fixed v n rest h1 h8, Nat.mod_eq_of_lt hv]
  simp only [if_true]
  rw [List.drop_left' (length_fixed v n)]
theorem tabS_rawP (rest : List (BitVec 8)) : ∀ ps : List Int, (∀ x ∈ ps, 0 ≤ x ∧ x < 4294967296) → tabS ps.length (some (rawP ps ++ rest)) = ps ∧ tabL ps.length (some (rawP ps ++ rest)) = some rest
  | [], _ => ⟨rfl, rfl⟩
  | p :: ps, h => by
    have hp := h p (List.mem_cons_self ..)
    have hi := tabS_rawP rest ps (fun x hx => h x (List.mem_cons_of_mem _ hx))
    have e1 : rawP (p :: ps) ++ rest = fixed p.toNat 4 ++ (rawP ps ++ rest) := by unfold rawP; rw [List.flatMap_cons, List.append_assoc]
    have hf := fixS_fixed p.toNat 4 (rawP ps ++ rest) (by omega) (by omega) (by omega)
    rw [show ((4 : Nat) : Int) = 4 from rfl] at hf
    rw [e1]
    rw [List.length_cons]
    unfold tabS tabL
    rw [hf]
    simp only
    exact ⟨by rw [hi.1, Int.toNat_of_nonneg hp.1], hi.2⟩
theorem pos_mono (r : Nat) (L : List En) (i d : Nat) : pos r L i ≤ pos r L (i + d) := by
  obtain ⟨t, ht⟩ := encA_pre r L i d
  unfold pos
  rw [ht, List.length_append]; omega
theorem entL_min (c : Nat) (key value : ByteArray) (hk : key.size ≤ 1024) (hc : c ≤ key.size) (hv : value.size ≤ 1024) : 3 ≤ (entL c key value).length := by
  have h1 := (put_nine c (by omega)).1
  have h2 := (put_nine (key.size - c) (by omega)).1
  have h3 := (put_nine value.size (by omega)).1
  unfold entL
  simp only [List.length_append]
  omega
theorem cmAt_le (r : Nat) (L : List En) (i : Nat) : cmAt r L i ≤ (L.getD i dE).1.size := by
  unfold cmAt
  split
  · omega
  · exact (common_sizes _ _).2
theorem pos_ge (r : Nat) (L : List En) (hs : Small L) : ∀ i, i ≤ L.length → 3 * i ≤ pos r L i
  | 0, _ => by omega
  | i + 1, h => by
    have h1 := pos_ge r L hs i (by omega)
    have hm : L.getD i dE ∈ L := by rw [List.getD_eq_getElem?_getD, List.getElem?_eq_getElem (by omega)]; exact List.getElem_mem _
    have h2 := entL_min (cmAt r L i) (L.getD i dE).1 (L.getD i dE).2 (hs _ hm).1 (cmAt_le r L i) (hs _ hm).2
    show _ ≤ (encA r L i ++ enc1 r L i).length
    rw [List.length_append]
    unfold enc1 pos at *
    omega
def rawE (r : Nat) (L : List En) : List (BitVec 8) := rawL (esL r L) (psL r L) (r : Int) L.length
theorem grp_div (r n : Nat) (h : 0 < r) (hn : 0 < n) : (n - 1) / r + 1 = grpN r n := by
  unfold grpN
  rw [show n + r - 1 = (n - 1) + r by omega, Nat.add_div_right _ h]
theorem cut_back (r : Nat) (L : List En) (h1 : 1 ≤ r) (h64 : r ≤ 64) (hL : L ≠ []) (hs : Small L) (hl : (rawE r L).length ≤ 65536) :
    ctR (rawE r L) = r ∧ ctN (rawE r L) = L.length ∧ cutOk (rawE r L) = true ∧ ctP (rawE r L) = plL r L ∧ ctE (rawE r L) = (esL r L).length ∧ ctG (rawE r L) = grpN r L.length ∧ (rawE r L).take (ctE (rawE r L)) = esL r L := by
  have hlen : (rawE r L).length = (esL r L).length + 4 * grpN r L.length + 8 := by unfold rawE; rw [rawL_len, psL_len]
  have hn : 0 < L.length := List.length_pos_iff.2 hL
  have hge : 3 * L.length ≤ (esL r L).length := pos_ge r L hs L.length (Nat.le_refl _)
  have hdr : (rawE r L).drop ((rawE r L).length - 8) = fixed r 4 ++ (fixed L.length 4 ++ []) := by
    unfold rawE rawL
    rw [Int.toNat_natCast, List.append_nil, List.append_assoc]
    apply List.drop_left'
    simp only [List.length_append, length_fixed]
    omega
  have f1 := fixS_fixed r 4 (fixed L.length 4 ++ []) (by omega) (by omega) (by omega)
  have f2 := fixS_fixed L.length 4 [] (by omega) (by omega) (by omega)
  rw [show ((4 : Nat) : Int) = 4 from rfl] at f1 f2
  have hT : tailS (rawE r L) = some (fixed r 4 ++ (fixed L.length 4 ++ [])) := by unfold tailS; rw [hdr]
  have hR : ctR (rawE r L) = r := by unfold ctR; rw [hT, f1]
  have hN : ctN (rawE r L) = L.length := by unfold ctN; rw [hT, f1]; simp only; rw [f2]
  have hG : ctG (rawE r L) = grpN r L.length := by unfold ctG; rw [hR, hN]; exact grp_div r _ (by omega) hn
  have hE : ctE (rawE r L) = (esL r L).length := by unfold ctE; rw [hG]; omega
  have hA : cutA (rawE r L) = true := by
    unfold cutA
    refine decide_eq_true ⟨?_, by omega, by omega, by omega, by omega⟩
    rw [hT, f1]; simp only; rw [f2]
  have hB : cutB (rawE r L) = true := by unfold cutB; rw [hA, Bool.true_and]; exact decide_eq_true (by omega)
  have hdE : (rawE r L).drop (ctE (rawE r L)) = rawP (psL r L) ++ (fixed r 4 ++ fixed L.length 4) := by
    rw [hE]
    unfold rawE rawL
    rw [Int.toNat_natCast]
    simp only [List.append_assoc]
    exact List.drop_left
  have hps : ∀ x ∈ psL r L, 0 ≤ x ∧ x < 4294967296 := by
    intro x hx
    unfold psL at hx
    obtain ⟨g, hg, rfl⟩ := List.mem_map.1 hx
    have h2 := grp_lt r L.length g (by omega) (List.mem_range.1 hg)
    have h3 := pos_mono r L (g * r) (L.length - g * r)
    rw [Nat.add_sub_cancel' (by omega)] at h3
    have h4 : pos r L L.length = (esL r L).length := rfl
    omega
  have hP : ctP (rawE r L) = plL r L := by
    unfold ctP
    rw [hdE, hG, hE]
    have h5 := (tabS_rawP (fixed r 4 ++ fixed L.length 4) (psL r L) hps).1
    rw [psL_len] at h5
    rw [h5]
    rfl
  have hGp : 0 < grpN r L.length := by rw [← grp_div r _ (by omega) hn]; exact Nat.succ_pos _
  have hpl : (plL r L).length = grpN r L.length + 1 := by unfold plL; rw [List.length_append, psL_len]; rfl
  have hC : cutC (rawE r L) = true := by
    unfold cutC
    rw [hP, plL_get r L 0 (by omega) (by omega), Nat.zero_mul, Nat.min_eq_left (Nat.zero_le _)]
    rw [Bool.and_eq_true]
    refine ⟨by rfl, upI_of _ ?_⟩
    intro g hg
    rw [hpl] at hg
    rw [plL_get r L g (by omega) (by omega), plL_get r L (g + 1) (by omega) (by omega)]
    have h6 : min (g * r) L.length ≤ min ((g + 1) * r) L.length := by rw [Nat.add_mul]; omega
    have h7 := pos_mono r L (min (g * r) L.length) (min ((g + 1) * r) L.length - min (g * r) L.length)
    rw [Nat.add_sub_cancel' h6] at h7
    omega
  refine ⟨hR, hN, ?_, hP, hE, hG, ?_⟩
  · unfold cutOk; rw [hB, hC]; rfl
  · rw [hE]
    unfold rawE rawL
    simp only [List.append_assoc]
    exact List.take_left
end Go.Proofs.YthdblnfohbldcaaGreat.Bl
